/-
  The widening of extra: Gone, of, LU, Max of the program.
-/
import Derived.Test.YtfffcmelkdmjaaaDoorIbz
import Derived.Test.YtfffcmelkdmjaaaDoorZk
import Derived.Test.YtfffcmelkdmjaaaDoorZe
namespace Go.Proofs.YtfffcmelkdmjaaaDoor
open Go.RowKit
set_option linter.unusedVariables false
set_option maxRecDepth 100000
set_option maxHeartbeats 1000000 in
theorem cells_free (b n : Nat) (c : Row) (w : World) (hz : ZoneAt w b n c) (hn : n ≤ 8) :
    Calls Tryd.prog 65 #[.pointer (some ⟨b, 0, none⟩)] w fun e w' => (∃ g cap, e = .returned (.slice (some ⟨g, 0, none⟩) ((n + 1) * (n + 1)) cap) ∧ w.heap.size ≤ g ∧ g < w'.heap.size ∧ Hid (∀ k, k < (n + 1) * (n + 1) → w'.cell? ⟨g, k, none⟩ = some (.int .i32 (c k))) ∧ Hid (∀ j, w'.frozen? ⟨g, j, none⟩ = false)) ∧ Below w.heap.size w w' := by
  have HU := hideD (used_any b n w hn hz.clocks)
  have hm : (n + 1) * (n + 1) ≤ 81 := Nat.mul_le_mul (show n + 1 ≤ 9 by omega) (show n + 1 ≤ 9 by omega)
  have hp : 0 < (n + 1) * (n + 1) := Nat.mul_pos (by omega) (by omega)
  generalize (n + 1) * (n + 1) = m at *
  have hl := listOf_len c m
  obtain ⟨i0, hi, hz0, hz1, hz2⟩ := info_parts info_bd
  have HZ := hideD hz
  clear hz
  go_enter Tryd.func65, Tryd.ntmps65
  go_wp2_with fail
  refine HU.out.mono ?_
  rintro e w1 ⟨rfl, hb⟩
  have hZ1 := hideD (HZ.out.past hb)
  have hB1 := hideD hb
  have HN : Hid (∀ j u, ((listOf c m).map (Value.int .i32))[j]? = some u → w1.cell? ((⟨b, 1, none⟩ : Addr).add j) = some u) := by
    intro j u hu
    rw [Addr.add_lit]
    by_cases hj : j < m
    · rw [hZ1.out.cell j (by omega)]
      simp [listOf, hj] at hu
      simp [hu]
    · rw [List.getElem?_eq_none (by simp [hl]; omega)] at hu
      cases hu
  clear hb HU HZ
  go_wp2_with (at_builtin; refine wpList_append_own _ rfl _ _ 22 rfl w1.heap.size 79 i0 (.int .i32 0) 1 4 Tryd.underlying22 hi hz0 hz1 hz2 rfl (by decide) _ 0 [] rfl (World.ownsRow_nil _ _ _ _) ⟨b, 1, none⟩ m 81 ((listOf c m).map (Value.int .i32)) rfl (by simp [hl]) HN.out (fun x hx => by obtain ⟨z, _, rfl⟩ := List.mem_map.1 hx; rfl) (by unfold maxLen; omega) (by omega) (by omega) ?_; intro v' w2 hown hgrow hnil)
  have hb2 : Below w1.heap.size w1 w2 := (Below.refl _ _).grown hgrow (Nat.le_refl _) (by intro k hk; cases hk)
  go_ret
  have hown' : w2.ownsRow w1.heap.size 79 1 v' m ((listOf c m).map (Value.int .i32)) := by simpa using hown
  obtain ⟨m', rfl⟩ : ∃ m', m = m' + 1 := ⟨m - 1, by omega⟩
  obtain ⟨g', cap', rfl⟩ := own_form hown'
  have lt := hown'.lt g' rfl
  refine ⟨⟨g', cap', rfl, Nat.le_trans hB1.out.size lt.1, lt.2, fun k hk => ?_, fun j => hown'.frozenAt j⟩, beyondD hB1.out hb2⟩
  rw [hown'.cellAt k (by omega)]
  simp [listOf, hk]
theorem gone_err (v u : Value) (k : Int) (w : World) (H : Calls Tryd.prog 47 #[v, u] w fun e w' => e = errOf k ∧ Below w.heap.size w w') :
    Calls Tryd.prog 68 #[v, u] w fun e w' => e = errOf k ∧ Below w.heap.size w w' := by
  have H := hideD H
  go_enter Tryd.func68, Tryd.ntmps68
  go_wp2_with fail
  refine H.out.mono ?_
  rintro e w' ⟨rfl, hp⟩
  go_wp2_with fail
  exact bodyPost_ret (v := .tuple #[.pointer none, .int .i64 k]) (by simp [results, Tryd.results68, go_sem]) rfl ⟨rfl, hp⟩
theorem gone_tells (v u : Value) (n : Nat) (c1 : Row) (w : World) (H : Tells w n 47 #[v, u] (some c1)) : Tells w n 68 #[v, u] (some c1) := by
  unfold Tells at *
  have H := hideD H
  go_enter Tryd.func68, Tryd.ntmps68
  go_wp2_with fail
  refine H.out.mono ?_
  rintro e w' ⟨⟨B, z, l, rfl, hz⟩, hb⟩
  have HZ := hideD hz
  clear hz
  go_wp2_with fail
  exact bodyPost_ret (v := .tuple #[.pointer (some ⟨z, 0, none⟩), .int .i64 0]) (by simp [results, Tryd.results68, go_sem]) rfl ⟨⟨B, z, l, rfl, HZ.out⟩, hb⟩
def wdR (n : Nat) (lo up : List Int) (c : Row) : Row := fun k => if k / (n + 1) = k % (n + 1) then c k else wdV (k / (n + 1)) (cstN lo (k / (n + 1))) (cstN up (k % (n + 1))) (c k)
/-- What the widening of a zone makes, of the cells without the silent clocks. -/
def luO (n m : Nat) (lo up : List Int) (c1 : Row) : Option Row := if c1 0 < 1 then some c1 else zoneR n (drf n m (listOf (wdR n lo up c1) m))
theorem odd3 (x : Int) : Odd (.int .i32 x) := ⟨fun y h => (by cases h), fun a k c h => (by cases h)⟩
set_option maxHeartbeats 4000000 in
theorem wof_any (b bl bh n m : Nat) (v : Value) (c c1 : Row) (lo up : List Int) (w : World) (hn : n ≤ 8) (hm : m = (n + 1) * (n + 1)) (hz : ZoneAt w b n c) (hc : C32 c) (hv : IntsAt w v (silL lo up n)) (hby : ByAt w bl bh n lo up) (hvs : ∃ a k cc, v = .slice a k cc)
    (hc0 : ∀ i, i ≤ n → 0 ≤ cstN lo i ∧ cstN lo i ≤ 1048576 ∧ 0 ≤ cstN up i ∧ cstN up i ≤ 1048576) (hr : ∀ k, rightB (wdR n lo up c1 k) = true)
    (HF : ∀ w', Below w.heap.size w w' → Tells w' n 47 #[.pointer (some ⟨b, 0, none⟩), v] (some c1)) :
    Tells w n 124 #[.agg #[v, byF bl bh], .pointer (some ⟨b, 0, none⟩)] (luO n m lo up c1) := by
  have B0 := hideD (below_one w (.cells #[v, byF bl bh] 182))
  have HG := hideD (gone_tells _ _ n c1 _ (HF _ B0.out))
  have V0 : (w.alloc (.cells #[v, byF bl bh] 182)).cell? ⟨w.heap.size, 0, none⟩ = some v := by simp [go_sem]
  have V1 : (w.alloc (.cells #[v, byF bl bh] 182)).cell? ⟨w.heap.size, 1, none⟩ = some (byF bl bh) := by simp [go_sem]
  have BY0 := hideD (hby.past B0.out)
  have HE : Hid (∀ w z, ZoneAt w z n c1 → Calls Tryd.prog 52 #[.pointer (some ⟨z, 0, none⟩)] w fun e w' => e = .returned (.bool (decide (c1 0 < 1))) ∧ Below w.heap.size w w') := fun w z hz => zempty_any z n c1 w hn hz
  have HDm : Hid (∀ w z, ZoneAt w z n c1 → Calls Tryd.prog 90 #[.pointer (some ⟨z, 0, none⟩)] w fun e w' => e = .returned (.int .i64 (n : Int)) ∧ w' = w) := fun w z hz => dimZ_any z n w hz.clocks
  have HCl : Hid (∀ w z, ZoneAt w z n c1 → Calls Tryd.prog 65 #[.pointer (some ⟨z, 0, none⟩)] w fun e w' => (∃ g cap, e = .returned (.slice (some ⟨g, 0, none⟩) m cap) ∧ w.heap.size ≤ g ∧ g < w'.heap.size ∧ Hid (∀ k, k < m → w'.cell? ⟨g, k, none⟩ = some (.int .i32 (c1 k))) ∧ Hid (∀ j, w'.frozen? ⟨g, j, none⟩ = false)) ∧ Below w.heap.size w w') := fun w z hz => by
    have := cells_free z n c1 w hz hn
    rw [← hm] at this
    exact this
  clear hz hc hv HF
  obtain ⟨a, k, cc, rfl⟩ := hvs
  have V1' := V1
  unfold byF at V1
  obtain ⟨o, hO⟩ : ∃ o, luO n m lo up c1 = o := ⟨_, rfl⟩
  rw [hO]
  have HO := hideD hO
  clear hO
  unfold Tells
  go_enter Tryd.func124, Tryd.ntmps124
  go_wp2_with fail
  unfold byF at *
  generalize w.alloc (.cells #[.slice a k cc, .func (.func 150) #[] #[.pointer (some ⟨bl, 0, none⟩), .pointer (some ⟨bh, 0, none⟩)]] 182) = w0 at *
  refine HG.out.mono ?_
  rintro e w1 ⟨⟨B, z, l, rfl, hz⟩, hb1⟩
  have Z1 := hideD hz
  have E1 := hideD (HE.out w1 z hz)
  have B1 := hideD (beyondD B0.out hb1)
  have V2 := hideD (kc _ _ hb1 V1)
  have BY1 := hideD (BY0.out.past hb1)
  clear HG V0 V1 V1' hb1 hz BY0
  by_cases ce : c1 0 < 1
  · rw [decide_eq_true ce] at E1
    have ho : Hid (o = some c1) := by show o = _; rw [← HO.out]; unfold luO; rw [if_pos ce]
    go_wp2_with fail
    refine E1.out.mono ?_
    rintro e w2 ⟨rfl, hb2⟩
    have Z2 := hideD (Z1.out.past hb2)
    have B2 := hideD (beyondD B1.out hb2)
    clear hb2 E1
    go_wp2_with fail
    exact bodyPost_ret (v := .tuple #[.pointer (some ⟨z, 0, none⟩), .int .i64 0]) (by simp [results, Tryd.results124, go_sem]) rfl ⟨⟨B, by rw [ho.out]; exact ⟨z, l, rfl, Z2.out⟩⟩, B2.out⟩
  · rw [decide_eq_false ce] at E1
    have ho : Hid (o = zoneR n (drf n m (listOf (wdR n lo up c1) m))) := by show o = _; rw [← HO.out]; unfold luO; rw [if_neg ce]
    go_wp2_with fail
    refine E1.out.mono ?_
    rintro e w2 ⟨rfl, hb2⟩
    have Z2 := hideD (Z1.out.past hb2)
    have B2 := hideD (beyondD B1.out hb2)
    have V3 := hideD (kc _ _ hb2 V2.out)
    have BY2 := hideD (BY1.out.past hb2)
    have D2 := hideD (HDm.out w2 z Z2.out)
    have C2 := hideD (HCl.out w2 z Z2.out)
    have sd : wrap64 ((n : Int) + 1) = ((n + 1 : Nat) : Int) := by unfold wrap64; omega
    clear hb2 E1 Z1 B1 V2 BY1
    go_wp2_with fail
    refine D2.out.mono ?_
    rintro e w3 ⟨rfl, rfl⟩
    clear D2
    go_wp2_with fail
    refine C2.out.mono ?_
    rintro e w4 ⟨⟨g, cap, rfl, hg, hgl, hrow, hfz⟩, hb4⟩
    have B4 := hideD (beyondD B2.out hb4)
    have Z4 := hideD (Z2.out.past hb4)
    have V4 := hideD (kc _ _ hb4 V3.out)
    have BY4 := hideD (BY2.out.past hb4)
    have m81 : m ≤ 81 := by rw [hm]; exact Nat.mul_le_mul (show n + 1 ≤ 9 by omega) (show n + 1 ≤ 9 by omega)
    have HQ : Hid (∀ k, k < m → k / (n + 1) ≤ n ∧ k % (n + 1) ≤ n) := fun k hk => ⟨by rw [hm] at hk; have := Nat.div_lt_of_lt_mul hk; omega, by have := Nat.mod_lt k (show 0 < n + 1 by omega); omega⟩
    have HT : Hid (∀ k : Nat, (k : Int) / ((n : Int) + 1) = ((k / (n + 1) : Nat) : Int) ∧ (k : Int) % ((n : Int) + 1) = ((k % (n + 1) : Nat) : Int)) := fun k => ⟨by rw [show (n : Int) + 1 = ((n + 1 : Nat) : Int) by omega, ← Int.natCast_ediv], by rw [show (n : Int) + 1 = ((n + 1 : Nat) : Int) by omega, ← Int.natCast_emod]⟩
    have F0 : Hid (∀ k, k < m → w4.cell? ⟨g, k, none⟩ = some (.int .i32 (if k < 0 then wdR n lo up c1 k else c1 k))) := fun k hk => by rw [if_neg (by omega)]; exact hrow.out k hk
    have HCW : Hid (∀ wr (i j : Nat) (x : Int), ByAt wr bl bh n lo up → i ≤ n → j ≤ n → Calls Tryd.prog 150 #[.int .i64 i, .int .i64 j, .int .i32 x, .pointer (some ⟨bl, 0, none⟩), .pointer (some ⟨bh, 0, none⟩)] wr fun e w' => e = .returned (.int .i32 (wdV i (cstN lo i) (cstN up j) x)) ∧ w' = wr) := fun wr i j x hb hi hj => by
      obtain ⟨gl, cl, gh, ch, h1, h2, h3⟩ := hb
      exact wcell_any bl bh gl gh cl ch n i j x _ _ wr hn hi hj (hc0 i hi).1 (hc0 i hi).2.1 (hc0 j hj).2.2.1 (hc0 j hj).2.2.2 h1 h2 (h3 i hi).1 (h3 j hj).2
    have HOF : Hid (∀ wr, (∀ k, k < m → wr.cell? ⟨g, k, none⟩ = some (.int .i32 (wdR n lo up c1 k))) → Calls Tryd.prog 41 #[.int .i64 (n : Int), .slice (some ⟨g, 0, none⟩) m cap] wr fun e w' => ZoneOut w' wr.heap.size n e (zoneR n (drf n m (listOf (wdR n lo up c1) m))) ∧ Below wr.heap.size wr w') := fun wr hk => by
      have hlen := listOf_len (wdR n lo up c1) m
      have rb : ∀ k, -2147483648 ≤ wdR n lo up c1 k ∧ wdR n lo up c1 k ≤ 2147483647 := fun k => by
        have := hr k
        simp only [rightB, decide_eq_true_eq] at this
        omega
      have P := of_main n g 0 cap (listOf (wdR n lo up c1) m) wr hn (by rw [hlen, hm]) (fun j hj => by rw [hlen] at hj; rw [listOf_get _ _ _ hj, Nat.zero_add]; exact hk j hj) (fun j hj => by rw [listOf_get _ _ _ (by rw [hlen] at hj; exact hj)]; exact rb j)
      rw [hlen] at P
      refine P.mono fun e w' h => ?_
      have ha : allRight (listOf (wdR n lo up c1) m) m = true := allRight_of _ _ fun j hj => by rw [listOf_get _ _ _ hj]; exact hr j
      obtain ⟨h1, ⟨h2, -⟩ | ⟨-, h2⟩⟩ := h
      · rw [ha] at h2; cases h2
      · exact ⟨h2, h1⟩
    have WD : Hid (∀ K, K / (n + 1) = K % (n + 1) → wdR n lo up c1 K = c1 K) := fun K e => by unfold wdR; rw [if_pos e]
    have WN : Hid (∀ K, ¬ K / (n + 1) = K % (n + 1) → wdR n lo up c1 K = wdV (K / (n + 1)) (cstN lo (K / (n + 1))) (cstN up (K % (n + 1))) (c1 K)) := fun K e => by unfold wdR; rw [if_neg e]
    have B40 := hideD hb4
    generalize hW : wdR n lo up c1 = wd at *
    clear hW hrow hb4 B4 Z4 V4 BY4 HCl HE hr hc0 hby C2 sd
    have m1 : (m : Int) ≤ 81 := by omega
    have s0 : ¬ (n : Int) + 1 = 0 := by omega
    have s1 : ((n : Int) + 1 == 0) = false := by simpa using s0
    have hm' := hideD hm
    clear hm
    go_wp2_with fail
    go_loopw [36] (fun s wr => ∃ (K : Nat), K ≤ m ∧ s = .int .i64 K ∧ Hid (∀ k, k < m → wr.cell? ⟨g, k, none⟩ = some (.int .i32 (if k < K then wd k else c1 k))) ∧ Hid (∀ j, wr.frozen? ⟨g, j, none⟩ = false) ∧ Hid (Below w3.heap.size w3 wr)) (fun s _ => m - (intOf s).toNat)
    case atStart => exact ⟨0, by omega, rfl, F0, hfz, B40⟩
    case round =>
      obtain ⟨K, hK, rfl, F, Z, B⟩ := hrel
      clear F0 hfz B40
      by_cases ck : K < m
      · have f0 := F.out K ck
        rw [if_neg (by omega)] at f0
        have z0 := Z.out K
        obtain ⟨i1, j1⟩ := HQ.out K ck
        have TK : Hid (wrap64 ((K : Int) / ((n : Int) + 1)) = ((K / (n + 1) : Nat) : Int) ∧ (K : Int) % ((n : Int) + 1) = ((K % (n + 1) : Nat) : Int)) := ⟨by rw [(HT.out K).1]; have := i1; revert this; generalize K / (n + 1) = i; intro this; unfold wrap64; omega, (HT.out K).2⟩
        have v0 := kc _ _ B.out V3.out
        have by0 := BY2.out.past B.out
        have wd0 := hideD (WD.out K)
        have wn0 := hideD (WN.out K)
        have HCK := hideD (HCW.out wr (K / (n + 1)) (K % (n + 1)) (c1 K) by0 i1 j1)
        clear by0
        generalize K / (n + 1) = i at *
        generalize K % (n + 1) = j at *
        have k0 : (0 : Int) ≤ (K : Int) := by omega
        have k1 : (K : Int) < (m : Int) := by omega
        go_upto_region 9 with (fail)
        go_quiet (fail)
        rw [TK.out.1, TK.out.2]
        have F5 : Hid (∀ k, k < m → (wr.drewN nq).cell? ⟨g, k, none⟩ = some (.int .i32 (if k < K then wd k else c1 k))) := F
        have Z5 : Hid (∀ j, (wr.drewN nq).frozen? ⟨g, j, none⟩ = false) := Z
        have B5 := hideD (below_drewN B.out nq)
        have v5 : (wr.drewN nq).cell? ⟨w.heap.size, 1, none⟩ = _ := v0
        have f5 : (wr.drewN nq).cell? ⟨g, K, none⟩ = _ := f0
        have z5 : (wr.drewN nq).frozen? ⟨g, K, none⟩ = _ := z0
        have HCK' := hideD (HCW.out (wr.drewN nq) i j (c1 K) (BY2.out.past B5.out) i1 j1)
        generalize wr.drewN nq = w5 at *
        clear F Z B v0 f0 z0 HCK
        by_cases ij : i = j
        · subst ij
          have F' : Hid (∀ k, k < m → w5.cell? ⟨g, k, none⟩ = some (.int .i32 (if k < K + 1 then wd k else c1 k))) := fun k hk => by
            by_cases e : k = K
            · rw [if_pos (by omega), e, wd0.out rfl]; exact f5
            · have := F5.out k hk
              by_cases l : k < K
              · rw [if_pos l] at this; rw [if_pos (by omega)]; exact this
              · rw [if_neg l] at this; rw [if_neg (by omega)]; exact this
          clear F5 wn0 HCK'
          go_wp2_with fail
          go_roundw
          case rel => exact ⟨K + 1, by omega, by go_num, F', Z5, B5⟩
          case measure => simp [intOf]; omega
        · have ij' : ¬ (i : Int) = (j : Int) := by omega
          have ij2 : ((i : Int) == (j : Int)) = false := by simpa using ij'
          have ij3 : ((i : Int) != (j : Int)) = true := by simpa using ij'
          have wn1 := hideD (wn0.out ij)
          have F' : Hid (∀ k, k < m → (w5.setCell ⟨g, K, none⟩ (.int .i32 (wd K))).cell? ⟨g, k, none⟩ = some (.int .i32 (if k < K + 1 then wd k else c1 k))) := fun k hk => by
            by_cases e : k = K
            · subst e; rw [if_pos (by omega)]; exact World.cell?_setCell_same _ _ _ f5
            · rw [World.cell?_setCell_other _ _ _ _ (by intro h; injection h; omega)]
              have := F5.out k hk
              by_cases l : k < K
              · rw [if_pos l] at this; rw [if_pos (by omega)]; exact this
              · rw [if_neg l] at this; rw [if_neg (by omega)]; exact this
          have Z' : Hid (∀ j, (w5.setCell ⟨g, K, none⟩ (.int .i32 (wd K))).frozen? ⟨g, j, none⟩ = false) := fun j => by rw [World.frozen?_setCell]; exact Z5.out j
          have B' := hideD (B5.out.setCell (p := ⟨g, K, none⟩) hg (.int .i32 (wd K)))
          rw [← wn1.out] at HCK'
          generalize wd K = y at *
          clear F5 Z5 B5 wn0 wn1 wd0
          go_wp2_with fail
          refine HCK'.out.mono ?_
          rintro e w6 ⟨rfl, rfl⟩
          clear HCK'
          go_wp2_with fail
          exact ⟨⟨K + 1, by omega, by go_num, F', Z', B'⟩, by simp [intOf]; omega⟩
      · have eK : K = m := by omega
        subst eK
        have HD9 := hideD (HDm.out wr z (Z2.out.past B.out))
        have F' : Hid (∀ k, k < K → wr.cell? ⟨g, k, none⟩ = some (.int .i32 (wd k))) := fun k hk => by
          have := F.out k hk
          rw [if_pos hk] at this
          exact this
        have HO9 := hideD (HOF.out wr F'.out)
        have B9 := hideD (beyondD B2.out B.out)
        clear F F' Z B HOF HCW
        go_wp2_with fail
        refine HD9.out.mono ?_
        rintro e w6 ⟨rfl, rfl⟩
        clear HD9
        go_wp2_with fail
        refine HO9.out.mono ?_
        rintro e w7 ⟨hO, hb7⟩
        have B10 := hideD (beyondD B9.out hb7)
        have ho' := ho.out
        rw [← ho'] at hO
        clear HO9 hb7 ho ho'
        cases o with
        | none =>
          obtain rfl : e = errOf 10 := hO
          go_wp2_with fail
          exact bodyPost_ret (v := .tuple #[.pointer none, .int .i64 10]) (by simp [results, Tryd.results124, go_sem]) rfl ⟨⟨0, rfl⟩, B10.out⟩
        | some d' =>
          obtain ⟨z', l', rfl, hz'⟩ := hO
          have HZ := hideD hz'
          clear hz'
          go_wp2_with fail
          exact bodyPost_ret (v := .tuple #[.pointer (some ⟨z', 0, none⟩), .int .i64 0]) (by simp [results, Tryd.results124, go_sem]) rfl ⟨⟨_, z', l', rfl, HZ.out⟩, B10.out⟩
end Go.Proofs.YtfffcmelkdmjaaaDoor

/-
  LU and Max of the program.
-/
namespace Go.Proofs.YtfffcmelkdmjaaaDoor
open Go.RowKit
set_option linter.unusedVariables false
set_option maxRecDepth 100000
def frS (l : List Int) : Nat → Mat → Mat
  | 0, p => p
  | K + 1, p => frP (l.getD K 0).toNat (frS l K p)
theorem FullC.self {n m : Nat} {p : Mat} {c : Row} (h : FullC n m p c) : FullC n m p (cellsUpto n p m) := ⟨h.cl, h.low, h.nar, rfl⟩
theorem frS_full {n m : Nat} {p : Mat} {c : Row} {l : List Int} (hm : m = (n + 1) * (n + 1)) (h : FullC n m p c) : ∀ K, hasA n l K = true → FullC n m (frS l K p) (cellsUpto n (frS l K p) m) ∧ Le n p (frS l K p)
  | 0, _ => ⟨h.self, fun _ _ _ _ => Int.le_refl _⟩
  | K + 1, ha => by
    have ha' : hasA n l K = true := by simp only [hasA, Bool.and_eq_true] at ha; exact ha.1
    have hx := hasA_at ha K (by omega)
    obtain ⟨f1, f2⟩ := frS_full hm h K ha'
    refine ⟨frP_full hm f1 (by omega), fun i j hi hj => Int.le_trans (f2 i j hi hj) (frP_le f1 (by omega) i j hi hj)⟩
theorem frS_rd {n m : Nat} {p : Mat} {c : Row} {l : List Int} (hm : m = (n + 1) * (n + 1)) (h : FullC n m p c) : ∀ K, hasA n l K = true → Rd n (freeL n l K (oR n c m)) (frS l K p)
  | 0, _ => h.rd hm
  | K + 1, ha => by
    have ha' : hasA n l K = true := by simp only [hasA, Bool.and_eq_true] at ha; exact ha.1
    have hx := hasA_at ha K (by omega)
    exact (frS_rd hm h K ha').free (by omega)
theorem freeL_empty {n : Nat} {l : List Int} : ∀ K, hasA n l K = true → (∀ i j, i ≤ n → j ≤ n → freeL n l K (fun _ _ => 0) i j = 0 ∨ freeL n l K (fun _ _ => 0) i j = 1 ∨ freeL n l K (fun _ _ => 0) i j = 2147483647) ∧ freeL n l K (fun _ _ => 0) 0 0 = 0
  | 0, _ => ⟨fun _ _ _ _ => .inl rfl, rfl⟩
  | K + 1, ha => by
    have ha' : hasA n l K = true := by simp only [hasA, Bool.and_eq_true] at ha; exact ha.1
    have hx := hasA_at ha K (by omega)
    obtain ⟨f1, f2⟩ := freeL_empty K ha'
    refine ⟨fun i j hi hj => ?_, ?_⟩
    · rw [freeL, freeK_at (by omega)]
      split
      · rw [if_pos (by omega)]; exact .inr (.inr rfl)
      · split
        · rw [if_pos (by omega)]; exact f1 i 0 hi (by omega)
        · exact f1 i j hi hj
    · rw [freeL, freeK_at (by omega), if_neg (by omega), if_neg (by omega), f2]
/-- The cells of a zone in which clocks are any. -/
theorem free_rowL {n m : Nat} {c : Row} {l : List Int} (hn : n ≤ 8) (hm : m = (n + 1) * (n + 1)) (h : ZC n m c) (ha : hasA n l l.length = true) : ∃ c1, ZC n m c1 ∧ incB m c1 c = true ∧ RightM n (freeL n l l.length (oR n c m)) ∧ zoneR n (drf n m (rowsL n (freeL n l l.length (oR n c m)) (n + 1))) = some c1 ∧ (∀ p, FullC n m p c → c1 = cellsUpto n (frS l l.length p) m ∧ FullC n m (frS l l.length p) c1 ∧ Le n p (frS l l.length p)) ∧ (c = (fun _ => 0) → c1 = fun _ => 0) := by
  rcases h with rfl | ⟨p, hp⟩
  · obtain ⟨f1, f2⟩ := freeL_empty (n := n) l.length ha
    refine ⟨fun _ => 0, .inl rfl, incB_iff.2 (.inl (by decide)), ?_, ?_, fun p hp => ?_, fun _ => rfl⟩
    · rw [oR_zero]; exact right_zero (m := m) f1
    · refine pm_hollow hm ?_
      rw [oR_zero]; exact f2
    · have := hp.zero hm
      cases this
  · obtain ⟨F, L⟩ := frS_full (l := l) hm hp l.length ha
    have R := frS_rd (l := l) hm hp l.length ha
    have hz := R.self hn hm F.cl
    rw [if_pos F.nar] at hz
    refine ⟨_, .inr ⟨_, F⟩, full_inc F hp hm L, R.right, hz, fun p' hp' => ?_, fun e => ?_⟩
    · obtain ⟨F', L'⟩ := frS_full (l := l) hm hp' l.length ha
      have R' := frS_rd (l := l) hm hp' l.length ha
      have hz' := R'.self hn hm F'.cl
      rw [if_pos F'.nar, hz] at hz'
      have e := Option.some.inj hz'
      exact ⟨e, by rw [e]; exact F', L'⟩
    · have := hp.zero hm
      rw [e] at this
      cases this
theorem free_list {b n : Nat} {v : Value} {c : Row} {l : List Int} {w : World} (h : n ≤ 8) (hz : ZoneAt w b n c) (hc : C32 c) (hv : IntsAt w v l) (hq : l.length ≤ 9223372036854775807) :
    Calls Tryd.prog 47 #[.pointer (some ⟨b, 0, none⟩), v] w fun e w' => FreeOut w' w.heap.size n e l (oR n c ((n + 1) * (n + 1))) ∧ Below w.heap.size w w' := by
  rcases hv with ⟨ad, cp, rfl, rfl⟩ | ⟨cb, off, cap, rfl, hcell⟩
  · exact free_main b n 0 cp ad c [] w h hz hc rfl (.inl ⟨ad, cp, rfl, rfl⟩) (by omega)
  · exact free_main b n l.length cap _ c l w h hz hc rfl (.inr ⟨cb, off, cap, rfl, hcell⟩) hq
theorem freeL_tells {b n m : Nat} {v : Value} {c c1 : Row} {l : List Int} {w : World} (hn : n ≤ 8) (hm : m = (n + 1) * (n + 1)) (hz : ZoneAt w b n c) (hc : C32 c) (hv : IntsAt w v l) (hq : l.length ≤ 9223372036854775807) (ha : hasA n l l.length = true)
    (hR : RightM n (freeL n l l.length (oR n c m))) (hz1 : zoneR n (drf n m (rowsL n (freeL n l l.length (oR n c m)) (n + 1))) = some c1) : Tells w n 47 #[.pointer (some ⟨b, 0, none⟩), v] (some c1) := by
  have H := free_list hn hz hc hv hq
  rw [← hm] at H
  refine tells_of hm hR hz1 (H.mono fun e w' ⟨h, hb⟩ => ⟨?_, hb⟩)
  rcases h with ⟨h, -⟩ | ⟨-, h⟩
  · rw [ha] at h; cases h
  · exact h
theorem cstN_bd {l : List Int} (h : cstA l l.length = true) (i : Nat) : 0 ≤ cstN l i ∧ cstN l i ≤ 1048576 := by
  unfold cstN
  split
  · omega
  · by_cases q : i - 1 < l.length
    · have := cstA_at h (i - 1) q
      omega
    · have : l.getD (i - 1) 0 = 0 := by simp [List.getD, Nat.not_lt.1 q]
      omega
theorem mayE_zero {n : Nat} {l : List Int} (h : mayE n l = 0) : l.length = n ∧ cstA l l.length = true := by
  unfold mayE at h
  split at h
  · rename_i e
    split at h
    · rename_i e'; exact ⟨e, e'⟩
    · cases h
  · cases h
theorem sil_has {lo up : List Int} {n : Nat} : hasA n (silL lo up n) (silL lo up n).length = true := by
  have : ∀ K, K ≤ (silL lo up n).length → hasA n (silL lo up n) K = true := by
    intro K
    induction K with
    | zero => intro _; rfl
    | succ K ih =>
      intro hK
      simp only [hasA, ih (by omega), Bool.true_and]
      have mem : (silL lo up n).getD K 0 ∈ silL lo up n := by
        have e : (silL lo up n).getD K 0 = (silL lo up n)[K] := by simp [List.getD, show K < (silL lo up n).length by omega]
        rw [e]; exact List.getElem_mem _
      obtain ⟨k, h1, h2, -⟩ := (silL_mem n).1 mem
      rw [h2]
      exact decide_eq_true (by omega)
  exact this _ (Nat.le_refl _)
theorem wdR_right {n : Nat} {lo up : List Int} {c : Row} (h1 : cstA lo lo.length = true) (h2 : cstA up up.length = true) (hc : ∀ k, rightB (c k) = true) (k : Nat) : rightB (wdR n lo up c k) = true := by
  unfold wdR
  split
  · exact hc k
  · unfold wdV
    have := cstN_bd h2 (k % (n + 1))
    split
    · rfl
    · split
      · simp only [rightB, decide_eq_true_eq]; omega
      · exact hc k
theorem lu_nil (v u : Value) (w : World) : Calls Tryd.prog 59 #[.pointer none, v, u] w fun e w' => e = errOf 1 ∧ w' = w := by
  go_enter Tryd.func59, Tryd.ntmps59
  go_wp2_with fail
  exact bodyPost_ret (v := .tuple #[.pointer none, .int .i64 1]) (by simp [results, Tryd.results59, go_sem]) rfl ⟨rfl, rfl⟩
theorem lu_err1 {b n q cap : Nat} {ad : Option Addr} {u : Value} {c : Row} {lo : List Int} {w : World} (hz : ZoneAt w b n c) (hl : lo.length = q) (hv : IntsAt w (.slice ad q cap) lo) (hq : q ≤ 9223372036854775807) (he : ¬ mayE n lo = 0) :
    Calls Tryd.prog 59 #[.pointer (some ⟨b, 0, none⟩), .slice ad q cap, u] w fun e w' => e = errOf (mayE n lo) ∧ w' = w := by
  have HD := hideD (dimZ_any b n w hz.clocks)
  have HM := hideD (maybe_any n q cap ad lo w hl hv hq)
  have he' : (mayE n lo != 0) = true := by simpa using he
  generalize mayE n lo = E at *
  clear hz hv
  go_enter Tryd.func59, Tryd.ntmps59
  go_wp2_with fail
  refine HD.out.mono ?_
  rintro e w1 ⟨rfl, rfl⟩
  go_wp2_with fail
  refine HM.out.mono ?_
  rintro e w1 ⟨rfl, rfl⟩
  go_wp2_with fail
  exact bodyPost_ret (v := .tuple #[.pointer none, .int .i64 E]) (by simp [results, Tryd.results59, go_sem]) rfl ⟨rfl, rfl⟩
theorem lu_err2 {b n q cap q' cap' : Nat} {ad ad' : Option Addr} {c : Row} {lo up : List Int} {w : World} (hz : ZoneAt w b n c) (hl : lo.length = q) (hv : IntsAt w (.slice ad q cap) lo) (hq : q ≤ 9223372036854775807) (hl' : up.length = q') (hv' : IntsAt w (.slice ad' q' cap') up) (hq' : q' ≤ 9223372036854775807) (h0 : mayE n lo = 0) (he : ¬ mayE n up = 0) :
    Calls Tryd.prog 59 #[.pointer (some ⟨b, 0, none⟩), .slice ad q cap, .slice ad' q' cap'] w fun e w' => e = errOf (mayE n up) ∧ w' = w := by
  have HD := hideD (dimZ_any b n w hz.clocks)
  have HM := maybe_any n q cap ad lo w hl hv hq
  rw [h0] at HM
  have HM := hideD HM
  have HM' := hideD (maybe_any n q' cap' ad' up w hl' hv' hq')
  have he' : (mayE n up != 0) = true := by simpa using he
  generalize mayE n up = E at *
  clear hz hv hv'
  go_enter Tryd.func59, Tryd.ntmps59
  go_wp2_with fail
  refine HD.out.mono ?_
  rintro e w1 ⟨rfl, rfl⟩
  go_wp2_with fail
  refine HM.out.mono ?_
  rintro e w1 ⟨rfl, rfl⟩
  go_wp2_with fail
  refine HD.out.mono ?_
  rintro e w1 ⟨rfl, rfl⟩
  go_wp2_with fail
  refine HM'.out.mono ?_
  rintro e w1 ⟨rfl, rfl⟩
  go_wp2_with fail
  exact bodyPost_ret (v := .tuple #[.pointer none, .int .i64 E]) (by simp [results, Tryd.results59, go_sem]) rfl ⟨rfl, rfl⟩
set_option maxHeartbeats 2000000 in
theorem lu_tells {b n m q cap q' cap' : Nat} {ad ad' : Option Addr} {c c1 : Row} {lo up : List Int} {w : World} (hn : n ≤ 8) (hm : m = (n + 1) * (n + 1)) (hz : ZoneAt w b n c) (zc : ZC n m c) (hl : lo.length = q) (hv : IntsAt w (.slice ad q cap) lo) (hl' : up.length = q') (hv' : IntsAt w (.slice ad' q' cap') up) (h0 : mayE n lo = 0) (h1 : mayE n up = 0)
    (zc1 : ZC n m c1) (hR : RightM n (freeL n (silL lo up n) (silL lo up n).length (oR n c m))) (hz1 : zoneR n (drf n m (rowsL n (freeL n (silL lo up n) (silL lo up n).length (oR n c m)) (n + 1))) = some c1) :
    Tells w n 59 #[.pointer (some ⟨b, 0, none⟩), .slice ad q cap, .slice ad' q' cap'] (luO n m lo up c1) := by
  obtain ⟨l1, k1⟩ := mayE_zero h0
  obtain ⟨l2, k2⟩ := mayE_zero h1
  obtain rfl : q = n := by omega
  obtain rfl : q' = q := by omega
  have HD := hideD (dimZ_any b q' w hz.clocks)
  have HM := maybe_any q' q' cap ad lo w hl hv (by omega)
  rw [h0] at HM
  have HM := hideD HM
  have HM' := maybe_any q' q' cap' ad' up w hl' hv' (by omega)
  rw [h1] at HM'
  have HM' := hideD HM'
  have HB := hideD (by_any q' cap cap' ad ad' lo up w hn hl hl' hv hv')
  have sl := silL_len lo up q'
  have HW : Hid (∀ w' v bl bh, Below w.heap.size w w' → IntsAt w' v (silL lo up q') → ByAt w' bl bh q' lo up → Tells w' q' 124 #[.agg #[v, byF bl bh], .pointer (some ⟨b, 0, none⟩)] (luO q' m lo up c1)) := fun w' v bl bh hb hi hby => by
    refine wof_any b bl bh q' m v c c1 lo up w' hn hm (hz.past hb) (zc_32 hm zc) hi hby ?_ (fun i hi => ⟨(cstN_bd k1 i).1, (cstN_bd k1 i).2, (cstN_bd k2 i).1, (cstN_bd k2 i).2⟩) (wdR_right k1 k2 (zc_right hm zc1)) (fun w'' hb' => freeL_tells hn hm ((hz.past hb).past hb') (zc_32 hm zc) (hi.past hb') (by omega) sil_has hR hz1)
    rcases hi with ⟨ad, c, rfl, -⟩ | ⟨g, off, cap, rfl, -⟩
    · exact ⟨_, _, _, rfl⟩
    · exact ⟨_, _, _, rfl⟩
  obtain ⟨o, hO⟩ : ∃ o, luO q' m lo up c1 = o := ⟨_, rfl⟩
  rw [hO] at HW ⊢
  clear hz hv hv' hO
  unfold Tells at *
  go_enter Tryd.func59, Tryd.ntmps59
  go_wp2_with fail
  refine HD.out.mono ?_
  rintro e w1 ⟨rfl, rfl⟩
  go_wp2_with fail
  refine HM.out.mono ?_
  rintro e w1 ⟨rfl, rfl⟩
  go_wp2_with fail
  refine HD.out.mono ?_
  rintro e w1 ⟨rfl, rfl⟩
  go_wp2_with fail
  refine HM'.out.mono ?_
  rintro e w1 ⟨rfl, rfl⟩
  go_wp2_with fail
  refine HB.out.mono ?_
  rintro e w2 ⟨⟨v, bl, bh, rfl, hi, hby⟩, hb2⟩
  have HW2 := hideD (HW.out w2 v bl bh hb2 hi.out hby.out)
  have B2 := hideD hb2
  clear HD HM HM' HB HW hb2 hi hby
  unfold byF at *
  go_wp2_with fail
  refine HW2.out.mono ?_
  rintro e w3 ⟨⟨B, hO⟩, hb3⟩
  have B3 := hideD (beyondD B2.out hb3)
  clear HW2 hb3 B2
  cases o with
  | none =>
    obtain rfl : e = errOf 10 := hO
    go_wp2_with fail
    exact bodyPost_ret (v := .tuple #[.pointer none, .int .i64 10]) (by simp [results, Tryd.results59, go_sem]) rfl ⟨⟨0, rfl⟩, B3.out⟩
  | some d' =>
    obtain ⟨z', l', rfl, hz'⟩ := hO
    have HZ := hideD hz'
    clear hz'
    go_wp2_with fail
    exact bodyPost_ret (v := .tuple #[.pointer (some ⟨z', 0, none⟩), .int .i64 0]) (by simp [results, Tryd.results59, go_sem]) rfl ⟨⟨B, z', l', rfl, HZ.out⟩, B3.out⟩
theorem max_err (v u : Value) (k : Int) (w : World) (H : Calls Tryd.prog 59 #[v, u, u] w fun e w' => e = errOf k ∧ w' = w) : Calls Tryd.prog 61 #[v, u] w fun e w' => e = errOf k ∧ w' = w := by
  have H := hideD H
  go_enter Tryd.func61, Tryd.ntmps61
  go_wp2_with fail
  refine H.out.mono ?_
  rintro e w' ⟨rfl, rfl⟩
  go_wp2_with fail
  exact bodyPost_ret (v := .tuple #[.pointer none, .int .i64 k]) (by simp [results, Tryd.results61, go_sem]) rfl ⟨rfl, rfl⟩
theorem max_tells (v u : Value) (n : Nat) (o : Option Row) (w : World) (H : Tells w n 59 #[v, u, u] o) : Tells w n 61 #[v, u] o := by
  unfold Tells at *
  have H := hideD H
  go_enter Tryd.func61, Tryd.ntmps61
  go_wp2_with fail
  refine H.out.mono ?_
  rintro e w' ⟨⟨B, hO⟩, hb⟩
  have HB := hideD hb
  clear H hb
  cases o with
  | none =>
    obtain rfl : e = errOf 10 := hO
    go_wp2_with fail
    exact bodyPost_ret (v := .tuple #[.pointer none, .int .i64 10]) (by simp [results, Tryd.results61, go_sem]) rfl ⟨⟨0, rfl⟩, HB.out⟩
  | some d' =>
    obtain ⟨z', l', rfl, hz'⟩ := hO
    have HZ := hideD hz'
    clear hz'
    go_wp2_with fail
    exact bodyPost_ret (v := .tuple #[.pointer (some ⟨z', 0, none⟩), .int .i64 0]) (by simp [results, Tryd.results61, go_sem]) rfl ⟨⟨B, z', l', rfl, HZ.out⟩, HB.out⟩
end Go.Proofs.YtfffcmelkdmjaaaDoor

/-
  live of the statements of extra; the walk of ExtraNone.
-/
namespace Go.Proofs.YtfffcmelkdmjaaaDoor
open Go.RowKit
set_option linter.unusedVariables false
set_option maxRecDepth 100000
theorem limits_zc {n m : Nat} {L : Lims} {c : Row} (hn : n ≤ 8) (hm : m = (n + 1) * (n + 1)) (ho : okAll n L L.q = true) (hz : zoneR n (tlAll L L.q (startR n (n + 1) 0)) = some c) : ZC n m c := by
  rw [← lims_same hm ho] at hz
  refine zc_drf (l := listOf (rlAll n L L.q) m) hn hm (fun k hk => ?_) hz
  rw [listOf_get _ _ _ hk]
  have := rl_right ho k
  simpa only [rightB, decide_eq_true_eq] using this
/-- No clock is silent: the cells stay. -/
theorem free_none {n m : Nat} {c : Row} (hn : n ≤ 8) (hm : m = (n + 1) * (n + 1)) (h : ZC n m c) : RightM n (freeL n [] 0 (oR n c m)) ∧ zoneR n (drf n m (rowsL n (freeL n [] 0 (oR n c m)) (n + 1))) = some c := by
  refine ⟨zc_rightM hm h, ?_⟩
  rw [show freeL n [] 0 (oR n c m) = oR n c m from rfl, rows_of (l := c) hm fun i j hi hj => oR_at hm hi hj]
  exact zc_zone hn hm h
/-- Max by constants, where the cells without the silent clocks are given. -/
theorem max_of {b n m g cap : Nat} {c c1 : Row} {l : List Int} {w : World} (hn : n ≤ 8) (hm : m = (n + 1) * (n + 1)) (hz : ZoneAt w b n c) (zc : ZC n m c) (hl : l.length = n) (hv : IntsAt w (.slice (some ⟨g, 0, none⟩) n cap) l) (h0 : mayE n l = 0)
    (zc1 : ZC n m c1) (hR : RightM n (freeL n (silL l l n) (silL l l n).length (oR n c m))) (hz1 : zoneR n (drf n m (rowsL n (freeL n (silL l l n) (silL l l n).length (oR n c m)) (n + 1))) = some c1) :
    Tells w n 61 #[.pointer (some ⟨b, 0, none⟩), .slice (some ⟨g, 0, none⟩) n cap] (luO n m l l c1) := max_tells _ _ n _ w (lu_tells hn hm hz zc hl hv hl hv h0 h0 zc1 hR hz1)
def LV : Lims := ⟨2, fun k => if k = 0 then 0 else 1, fun k => if k = 0 then 1 else 0, fun k => if k = 0 then -5 else 15⟩
theorem lv_zone : (zoneR 1 (tlAll LV LV.q (startR 1 (1 + 1) 0))).map (fun c => listOf c 4) = some [1, -5, 15, 1] := by kernel_rfl
theorem at4_list {c : Row} {a0 a1 a2 a3 : Int} (h : listOf c 4 = [a0, a1, a2, a3]) : c 0 = a0 ∧ c 1 = a1 ∧ c 2 = a2 ∧ c 3 = a3 := by
  simpa [listOf, List.range_succ] using h
theorem wd5 {c : Row} (h : listOf c 4 = [1, -5, 15, 1]) : listOf (wdR 1 [5] [5] c) 4 = [1, -5, 2147483647, 1] := by
  obtain ⟨h0, h1, h2, h3⟩ := at4_list h
  simp [listOf, List.range_succ, wdR, wdV, cstN, *]
  try decide
theorem wd2 {c : Row} (h : listOf c 4 = [1, -5, 15, 1]) : listOf (wdR 1 [2] [2] c) 4 = [1, -4, 2147483647, 1] := by
  obtain ⟨h0, h1, h2, h3⟩ := at4_list h
  simp [listOf, List.range_succ, wdR, wdV, cstN, *]
  try decide
theorem z5 : (zoneR 1 (drf 1 4 [1, -5, 2147483647, 1])).map (fun c => listOf c 4) = some [1, -5, 2147483647, 1] := by kernel_rfl
theorem z2 : (zoneR 1 (drf 1 4 [1, -4, 2147483647, 1])).map (fun c => listOf c 4) = some [1, -4, 2147483647, 1] := by kernel_rfl
def txt5 : List UInt8 := [49, 58, 32, 120, 48, 45, 120, 49, 60, 61, 45, 51]
def txt2 : List UInt8 := [49, 58, 32, 120, 48, 45, 120, 49, 60, 45, 50]
theorem print_of4 {c : Row} {l : List Int} (h : listOf c 4 = l) : printZ 1 c = printZ 1 (fun k => l.getD k 0) := by
  subst h
  exact printZ_congr 1 c _ fun k hk => (listOf_get c _ k hk).symm
theorem p5 : printZ 1 (fun k => [1, -5, 2147483647, 1].getD k 0) = txt5 := by kernel_rfl
theorem p2 : printZ 1 (fun k => [1, -4, 2147483647, 1].getD k 0) = txt2 := by kernel_rfl
theorem some_of {o : Option Row} {l : List Int} (h : o.map (fun c => listOf c 4) = some l) : ∃ c, o = some c ∧ listOf c 4 = l := by
  cases o with
  | none => cases h
  | some c => exact ⟨c, rfl, by simpa using h⟩
theorem lu_live {c : Row} {x : Int} {l : List Int} (h0 : c 0 = 1) (hw : listOf (wdR 1 [x] [x] c) 4 = l) {l' : List Int} (hz : (zoneR 1 (drf 1 4 l)).map (fun c => listOf c 4) = some l') : ∃ d, luO 1 4 [x] [x] c = some d ∧ listOf d 4 = l' := by
  unfold luO
  rw [if_neg (by omega), hw]
  exact some_of hz
set_option maxHeartbeats 4000000 in
theorem elive_any (w : World) (ht : Pow w) : Calls Tryd.prog 63 #[] w fun e w' => e = .returned (.bool true) ∧ Below w.heap.size w w' := by
  have HP := hideD ht
  obtain ⟨c, ec, hc⟩ := some_of lv_zone
  have zc : ZC 1 4 c := limits_zc (by omega) rfl (by kernel_rfl) ec
  have c0 := (at4_list hc).1
  obtain ⟨d5, e5, h5⟩ := lu_live c0 (wd5 hc) z5
  obtain ⟨d2, e2, h2⟩ := lu_live c0 (wd2 hc) z2
  obtain ⟨fR, fz⟩ := free_none (n := 1) (m := 4) (by omega) rfl zc
  have B0 := hideD (below_one w (.cells #[.int .i64 0, .int .i64 1, .int .i32 (-5), .int .i64 1, .int .i64 0, .int .i32 15] 83))
  have HL := limits_main 1 w.heap.size 0 2 LV (w.alloc (.cells #[.int .i64 0, .int .i64 1, .int .i32 (-5), .int .i64 1, .int .i64 0, .int .i32 15] 83)) (by omega) (fun k hk => by
    rcases (show k = 0 ∨ k = 1 by have : k < 2 := hk; omega) with rfl | rfl <;> simp [go_sem, LV]) (by simp) (fun k hk => by rcases (show k = 0 ∨ k = 1 by have : k < 2 := hk; omega) with rfl | rfl <;> simp [LV]) (by show 2 ≤ 9223372036854775807; decide)
  rw [ec] at HL
  have HL := hideD HL
  have HM5 : Hid (∀ w' z g, ZoneAt w' z 1 c → w'.cell? ⟨g, 0, none⟩ = some (.int .i64 5) → Tells w' 1 61 #[.pointer (some ⟨z, 0, none⟩), .slice (some ⟨g, 0, none⟩) 1 1] (some d5)) := fun w' z g hz hg => by
    rw [← e5]
    exact max_of (by omega) rfl hz zc rfl (.inr ⟨g, 0, 1, rfl, fun j hj => by obtain rfl : j = 0 := by simp at hj; omega
                                                                              exact hg⟩) (by kernel_rfl) zc fR fz
  have HM2 : Hid (∀ w' z g, ZoneAt w' z 1 c → w'.cell? ⟨g, 0, none⟩ = some (.int .i64 2) → Tells w' 1 61 #[.pointer (some ⟨z, 0, none⟩), .slice (some ⟨g, 0, none⟩) 1 1] (some d2)) := fun w' z g hz hg => by
    rw [← e2]
    exact max_of (by omega) rfl hz zc rfl (.inr ⟨g, 0, 1, rfl, fun j hj => by obtain rfl : j = 0 := by simp at hj; omega
                                                                              exact hg⟩) (by kernel_rfl) zc fR fz
  unfold Tells at *
  clear ht ec zc e5 e2 fR fz hc c0
  go_enter Tryd.func63, Tryd.ntmps63
  go_wp2_with fail
  refine HL.out.mono ?_
  rintro e w1 ⟨hb1, ⟨hbad, -⟩ | ⟨-, z, l1, rfl, hz⟩⟩
  · exfalso
    have : okAll 1 LV LV.q = true := by kernel_rfl
    rw [this] at hbad
    cases hbad
  have B1 := hideD (beyondD B0.out hb1)
  have bo := below_one w1 (.cells #[.int .i64 5] 3)
  have H5 := hideD (HM5.out (w1.alloc (.cells #[.int .i64 5] 3)) z w1.heap.size (hz.past bo) (by simp [go_sem]))
  have Z1 := hideD (hz.past bo)
  have B2 := hideD (beyondD B1.out bo)
  clear HL HM5 hb1 hz bo B0 B1
  go_wp2_with fail
  refine H5.out.mono ?_
  rintro e w2 ⟨⟨B, pa, l2, rfl, ha⟩, hb2⟩
  have B3 := hideD (beyondD B2.out hb2)
  have bo := below_one w2 (.cells #[.int .i64 2] 3)
  have H2 := hideD (HM2.out (w2.alloc (.cells #[.int .i64 2] 3)) z w2.heap.size ((Z1.out.past hb2).past bo) (by simp [go_sem]))
  have A2 := hideD (ha.past bo)
  have B4 := hideD (beyondD B3.out bo)
  clear H5 HM2 hb2 ha bo Z1 B2 B3
  go_wp2_with fail
  refine H2.out.mono ?_
  rintro e w3 ⟨⟨B', pb, l3, rfl, hbz⟩, hb3⟩
  have B5 := hideD (beyondD B4.out hb3)
  have A3 := hideD (A2.out.past hb3)
  have HP5 := printZ_any pa 1 d5 w3 (by omega) A3.out (pow_later HP.out B5.out)
  rw [print_of4 h5, p5] at HP5
  have HP5 := hideD HP5
  have Z3 := hideD hbz
  clear H2 hb3 hbz A2 B4
  go_wp2_with fail
  refine HP5.out.mono ?_
  rintro e w4 ⟨rfl, hb4⟩
  have B6 := hideD (beyondD B5.out hb4)
  have HP6 := printZ_any pb 1 d2 w4 (by omega) (Z3.out.past hb4) (pow_later HP.out B6.out)
  rw [print_of4 h2, p2] at HP6
  have HP6 := hideD HP6
  clear HP5 hb4 B5 A3 Z3
  unfold txt5
  go_wp2_with fail
  refine HP6.out.mono ?_
  rintro e w5 ⟨rfl, hb5⟩
  unfold txt2
  go_wp2_with fail
  go_ret
  exact ⟨rfl, beyondD B6.out hb5⟩
end Go.Proofs.YtfffcmelkdmjaaaDoor
