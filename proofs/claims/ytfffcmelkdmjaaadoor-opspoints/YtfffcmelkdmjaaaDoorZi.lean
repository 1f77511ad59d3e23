/-
  A draft of ops made as loose as a zone (loosen); Hull of the program.
-/
import Derived.Test.YtfffcmelkdmjaaaDoorZh
import Derived.Test.YtfffcmelkdmjaaaDoorZd
namespace Go.Proofs.YtfffcmelkdmjaaaDoor
open Go.RowKit
set_option linter.unusedVariables false
set_option maxRecDepth 100000
theorem ohollow_any (d n : Nat) (r : Mat) (w : World) (hD : ODraft w d n r) :
    Calls Tryd.prog 101 #[.pointer (some ⟨d, 0, none⟩)] w fun e w' => e = .returned (.bool (decide (r 0 0 < 1))) ∧ w' = w := by
  have c0 : w.cell? ⟨d, 1, none⟩ = some (.int .i32 (r 0 0)) := hD.cell 0 0 (by omega) (by omega)
  go_enter Tryd.func101, Tryd.ntmps101
  go_wp2_with fail
  go_ret
  exact ⟨by simp, rfl⟩
/-- The first K cells of a zone let in. -/
def lsM (n : Nat) (c : Row) : Nat → Mat → Mat
  | 0, r => r
  | K + 1, r => upd (lsM n c K r) (K / (n + 1)) (K % (n + 1)) (max (lsM n c K r (K / (n + 1)) (K % (n + 1))) (c K))
set_option maxHeartbeats 4000000 in
theorem oloosen_any (d z n m : Nat) (r : Mat) (c : Row) (w : World) (h : n ≤ 8) (hm : m = (n + 1) * (n + 1)) (hD : ODraft w d n r) (hZ : ZoneAt w z n c) :
    Calls Tryd.prog 102 #[.pointer (some ⟨d, 0, none⟩), .pointer (some ⟨z, 0, none⟩)] w fun e w' => e = .returned (.tuple #[]) ∧ ODraft w' d n (lsM n c m r) ∧ Below d w w' ∧ OnlyB d w w' := by
  have HC := hideD (cells_any z n c w hZ h)
  have HS : Hid (∀ w, Calls Tryd.prog 134 #[.agg #[.int .i64 n]] w fun e w' => e = .returned (.int .i64 ((n + 1 : Nat) : Int)) ∧ Below w.heap.size w w') := fun w => oside_any n w h
  have HQ : Hid (∀ k, k < m → k / (n + 1) ≤ n ∧ k % (n + 1) ≤ n) := fun k hk => ⟨by rw [hm] at hk; have := Nat.div_lt_of_lt_mul hk; omega, by have := Nat.mod_lt k (show 0 < n + 1 by omega); omega⟩
  have HT : Hid (∀ k : Nat, IntKind.i64.wrap ((k : Int) / ((n + 1 : Nat) : Int)) = IntKind.i64.wrap ((k / (n + 1) : Nat) : Int) ∧ (k : Int) % ((n + 1 : Nat) : Int) = ((k % (n + 1) : Nat) : Int)) := fun k => ⟨by rw [← Int.natCast_ediv], by rw [← Int.natCast_emod]⟩
  have hm81 : m ≤ 81 := by rw [hm]; exact Nat.mul_le_mul (show n + 1 ≤ 9 by omega) (show n + 1 ≤ 9 by omega)
  have D0 := hideD hD
  have dl := hD.lt
  rw [← hm] at HC
  clear hD hZ hm
  go_enter Tryd.func102, Tryd.ntmps102
  go_wp2_with fail
  refine HC.out.mono ?_
  rintro e w1 ⟨⟨v, rfl, g, cap, rfl, hg, hgl, hr⟩, hb⟩
  have hD1 := hideD (D0.out.past hb)
  have hB1 := hideD (hb.mono (Nat.le_of_lt dl))
  have hO1 := hideD (OnlyB.below (d := d) hb)
  have hG : Hid (g < w1.heap.size ∧ ∀ k, k < m → w1.cell? ⟨g, k, none⟩ = some (.int .i32 (c k))) := ⟨hgl, fun k hk => by
    have := hr k (by rw [listOf_len]; exact hk)
    rw [listOf_get c _ k hk] at this
    simpa using this⟩
  have hgd : Hid (¬ g = d) := by show ¬ g = d; omega
  clear hr hb HC D0 hg hgl
  rw [listOf_len]
  have s0 : ¬ ((n + 1 : Nat) : Int) = 0 := by omega
  have m1 : (m : Int) ≤ 81 := by omega
  go_wp2_with fail
  go_loopw [10] (fun s wr => ∃ (K : Nat), K ≤ m ∧ s = .int .i64 K ∧ Hid (ODraft wr d n (lsM n c K r)) ∧ Hid (Below d w wr) ∧ Hid (OnlyB d w wr) ∧ Hid (g < wr.heap.size ∧ ∀ k, k < m → wr.cell? ⟨g, k, none⟩ = some (.int .i32 (c k)))) (fun s _ => m - (intOf s).toNat)
  case atStart => exact ⟨0, by omega, rfl, hD1, hB1, hO1, hG⟩
  case round =>
    obtain ⟨K, hK, rfl, hD, hB, hO, hC⟩ := hrel
    clear hD1 hB1 hO1 hG
    by_cases ck : K < m
    · have hrow := hC.out.2 K ck
      obtain ⟨i1, j1⟩ := HQ.out K ck
      obtain ⟨t1, t2⟩ := HT.out K
      have nx : Hid (lsM n c (K + 1) r = upd (lsM n c K r) (K / (n + 1)) (K % (n + 1)) (max (lsM n c K r (K / (n + 1)) (K % (n + 1))) (c K))) := rfl
      generalize lsM n c K r = rK at *
      generalize K / (n + 1) = i at *
      generalize K % (n + 1) = j at *
      have wi : IntKind.i64.wrap ((i : Nat) : Int) = (i : Int) := by rw [IntKind.wrap_i64]; omega
      rw [wi] at t1
      generalize ex : c K = x at *
      clear ex
      generalize ((n + 1 : Nat) : Int) = s at *
      have k0 : (0 : Int) ≤ (K : Int) := by omega
      have k1 : (K : Int) < (m : Int) := by omega
      have i8 : i ≤ 8 := by omega
      have j8 : j ≤ 8 := by omega
      have a0 : (0 : Int) ≤ (i : Int) := by omega
      have a1 : (i : Int) < 9 := by omega
      have a2 : (0 : Int) ≤ (j : Int) := by omega
      have a3 : (j : Int) < 9 := by omega
      have t5 : (K : Int).tmod s = (j : Int) := by rw [Int.tmod_eq_emod_of_nonneg (by omega)]; exact t2
      have q0 := hD.out.clocks
      have B2 := Below.refl wr.heap.size wr
      have hF : Hid (∀ w2, Below wr.heap.size wr w2 → ODraft w2 d n rK ∧ Below d w w2 ∧ OnlyB d w w2 ∧ (g < w2.heap.size ∧ ∀ k, k < m → w2.cell? ⟨g, k, none⟩ = some (.int .i32 (c k)))) := fun w2 h1 => ⟨hD.out.past h1, hB.out.trans (h1.mono (Nat.le_of_lt hD.out.lt)), hO.out.trans (OnlyB.below h1), Nat.lt_of_lt_of_le hC.out.1 h1.size, fun k hk => (h1.cell (p := ⟨g, k, none⟩) hC.out.1).trans (hC.out.2 k hk)⟩
      clear hD hB hO hC
      go_upto_region 3 with (fail)
      go_region_held3 (fun w2 => w2.cell? ⟨d, 0, none⟩ = some (.int .i64 n))
        (first | with_reducible assumption | go_keep)
        (first
          | (go_at_call 134; refine (HS.out _).mono ?_; rintro e' w2 ⟨rfl, hb⟩; have s9 := kc ⟨d, 0, none⟩ (.int .i64 n) hb (by first | assumption | simp [go_sem, *]); have s1 := beyondD (w := wr) (by first | assumption | (apply Below.drew; assumption)) hb))
      all_goals
        obtain ⟨f1, f2, f3, f4⟩ := hF.out _ s1
        have c5 := f1.cell i j i8 j8
        have c6 := f1.free i j i8 j8
        have G1 : Hid (ODraft (w2.setCell (at9 d i j) (.int .i32 (max (rK i j) x))) d n (lsM n c (K + 1) r)) := by show ODraft _ _ _ _; rw [nx.out]; exact f1.set i8 j8 _
        have G2 := hideD (f2.setCell (p := at9 d i j) (Nat.le_refl _) (.int .i32 (max (rK i j) x)))
        have G3 := hideD (f3.set (p := at9 d i j) rfl (.int .i32 (max (rK i j) x)))
        have G4 : Hid (g < (w2.setCell (at9 d i j) (.int .i32 (max (rK i j) x))).heap.size ∧ ∀ k, k < m → (w2.setCell (at9 d i j) (.int .i32 (max (rK i j) x))).cell? ⟨g, k, none⟩ = some (.int .i32 (c k))) := ⟨by rw [World.size_setCell]; exact f4.1, fun k hk => by
          rw [World.cell?_setCell_other _ _ _ _ (by have := hgd.out; intro e; injection e; omega)]
          exact f4.2 k hk⟩
        clear hF s9 s1 hb B2 q0 hrow f1 f2 f3 f4 nx
        go_wp2_with fail
        exact ⟨⟨K + 1, by omega, by go_num, G1, G2, G3, G4⟩, by simp [intOf]; omega⟩
    · have eK : K = m := by omega
      subst eK
      go_wp2_with fail
      go_end0
      exact ⟨rfl, hD.out, hB.out, hO.out⟩
theorem lsM_32 {n : Nat} {c : Row} {r : Mat} (h : R32 r) (hc : C32 c) : ∀ K, R32 (lsM n c K r)
  | 0 => h
  | K + 1 => (lsM_32 h hc K).upd (by have := (lsM_32 (n := n) h hc K (K / (n + 1)) (K % (n + 1))).1; omega) (by have := (lsM_32 (n := n) h hc K (K / (n + 1)) (K % (n + 1))).2; have := (hc K).2; omega)
/-- The draft of a hull. -/
def hullK (n m : Nat) (c : Row) (zc : Nat → Row) : Nat → Mat
  | 0 => oR n c m
  | K + 1 => if decide (zc K 0 < 1) = true then hullK n m c zc K else if decide (hullK n m c zc K 0 0 < 1) = true then oR n (zc K) m else lsM n (zc K) m (hullK n m c zc K)
theorem hullK_32 {n m : Nat} {c : Row} {zc : Nat → Row} (h : C32 c) (hc : ∀ k, C32 (zc k)) : ∀ K, R32 (hullK n m c zc K)
  | 0 => oR_32 h
  | K + 1 => by
    unfold hullK
    split
    · exact hullK_32 h hc K
    · split
      · exact oR_32 (hc K)
      · exact lsM_32 (hullK_32 h hc K) (hc K) m
set_option maxHeartbeats 4000000 in
theorem hull_main (b n cap q : Nat) (ad : Option Addr) (c : Row) (zb : Nat → Nat) (zc : Nat → Row) (w : World) (h : n ≤ 8) (hz : ZoneAt w b n c) (hc : C32 c) (hq : q ≤ 9223372036854775807) (hp : ∀ k, k < q → ∃ g, ad = some ⟨g, 0, none⟩ ∧ w.cell? ⟨g, k, none⟩ = some (.pointer (some ⟨zb k, 0, none⟩))) (hy : ∀ k, k < q → ZoneAt w (zb k) n (zc k)) (hyc : ∀ k, C32 (zc k)) :
    Calls Tryd.prog 39 #[.pointer (some ⟨b, 0, none⟩), .slice ad q cap] w fun e w' => OpsOut w' w.heap.size n e (hullK n ((n + 1) * (n + 1)) c zc q) ∧ Below w.heap.size w w' := by
  have HJ : Hid (Calls Tryd.prog 98 #[.pointer (some ⟨b, 0, none⟩), .slice ad q cap] w fun e w' => e = .returned (.int .i64 0) ∧ w' = w) := by
    by_cases q0 : q = 0
    · subst q0
      exact join_none b n cap ad w
    · obtain ⟨g, rfl, -⟩ := hp 0 (by omega)
      exact join_ok b n g 0 cap q zb w hz.clocks hq (fun k hk => by obtain ⟨g', e, hc⟩ := hp k hk; injection e with e; injection e with e; subst e; rw [Nat.zero_add]; exact hc) fun k hk => (hy k hk).clocks
  have HD : Hid (∀ z c w, ZoneAt w z n c → _) := fun z c w h1 => odraft_any z n c w h h1
  have HE : Hid (∀ z c w, ZoneAt w z n c → _) := fun z c w h1 => zempty_any z n c w h h1
  have HH : Hid (∀ d r w, ODraft w d n r → _) := fun d r w h1 => ohollow_any d n r w h1
  generalize hm : (n + 1) * (n + 1) = m at *
  have HT : Hid (∀ d z r c w, ODraft w d n r → ZoneAt w z n c → _) := fun d z r c w h1 h2 => oloosen_any d z n m r c w h hm.symm h1 h2
  have HO : Hid (∀ d r w', ODraft w' d n r → R32 r → w.heap.size ≤ w'.heap.size → _) := fun d r w' h1 h2 h3 => ozone_out d n w.heap.size r w' h h1 h2 h3
  have H32 := hideD (hullK_32 (n := n) (m := m) hc hyc)
  have HD0 := hideD (HD.out b c w hz)
  have HP := hideD hp
  have HY := hideD hy
  have q1 : (q : Int) ≤ 9223372036854775807 := by omega
  clear hz hc hp hy hyc hm
  go_enter Tryd.func39, Tryd.ntmps39
  go_wp2_with fail
  refine HJ.out.mono ?_
  rintro e w1 ⟨rfl, rfl⟩
  go_wp2_with fail
  refine HD0.out.mono ?_
  rintro e w2 ⟨⟨d, rfl, hd, hD2⟩, hb⟩
  have hD3 : Hid (ODraft w2 d n (hullK n m c zc 0)) := hD2
  have hB3 := hideD hb
  clear HJ HD0 hD2 hb
  go_wp2_with fail
  go_loopw [7, 20] (fun p s wr => ∃ (K d : Nat), K ≤ q ∧ p = .pointer (some ⟨d, 0, none⟩) ∧ s = .int .i64 (K : Int) ∧ w1.heap.size ≤ d ∧ Hid (ODraft wr d n (hullK n m c zc K)) ∧ Hid (Below w1.heap.size w1 wr)) (fun _ s _ => q - (intOf s).toNat)
  case atStart => exact ⟨0, d, by omega, rfl, rfl, hd, hD3, hB3⟩
  case round =>
    obtain ⟨K, d, hK, rfl, rfl, hd, hD, hB⟩ := hrel
    clear hD3 hB3
    by_cases ck : K < q
    · have k0 : (0 : Int) ≤ (K : Int) := by omega
      have k1 : (K : Int) < (q : Int) := by omega
      obtain ⟨g, rfl, c0'⟩ := HP.out K ck
      have c0 := kc _ _ hB.out c0'
      have ZK := hideD ((HY.out K ck).past hB.out)
      have HEK := hideD (HE.out _ _ wr ZK.out)
      have nx : Hid (hullK n m c zc (K + 1) = if decide (zc K 0 < 1) = true then hullK n m c zc K else if decide (hullK n m c zc K 0 0 < 1) = true then oR n (zc K) m else lsM n (zc K) m (hullK n m c zc K)) := rfl
      cases t : decide (zc K 0 < 1) with
      | true =>
        rw [t] at HEK nx
        rw [if_pos rfl] at nx
        clear c0'
        go_wp2_with fail
        refine HEK.out.mono ?_
        rintro e w3 ⟨rfl, hb3⟩
        have hD5 : Hid (ODraft w3 d n (hullK n m c zc (K + 1))) := by show ODraft _ _ _ _; rw [nx.out]; exact hD.out.past hb3
        have hB5 := hideD (beyondD hB.out hb3)
        clear hb3 HEK hD hB c0 ZK nx
        go_wp2_with fail
        go_roundw
        case rel => exact ⟨K + 1, d, by omega, rfl, by go_num, hd, hD5, hB5⟩
        case measure => simp [intOf]; omega
      | false =>
        rw [t] at HEK nx
        rw [if_neg (by simp)] at nx
        clear c0'
        go_wp2_with fail
        refine HEK.out.mono ?_
        rintro e w3 ⟨rfl, hb3⟩
        have hD5 := hideD (hD.out.past hb3)
        have hB5 := hideD (beyondD hB.out hb3)
        have Z5 := hideD (ZK.out.past hb3)
        have HHK := hideD (HH.out d _ w3 hD5.out)
        clear hb3 HEK hD hB c0 ZK
        cases t2 : decide (hullK n m c zc K 0 0 < 1) with
        | true =>
          rw [t2] at HHK nx
          rw [if_pos rfl] at nx
          have HDK := hideD (HD.out _ _ w3 Z5.out)
          go_wp2_with fail
          refine HHK.out.mono ?_
          rintro e w4 ⟨rfl, rfl⟩
          go_wp2_with fail
          refine HDK.out.mono ?_
          rintro e w5 ⟨⟨d', rfl, hd', hD6⟩, hb6⟩
          have hD7 : Hid (ODraft w5 d' n (hullK n m c zc (K + 1))) := by show ODraft _ _ _ _; rw [nx.out]; exact hD6
          have hB7 := hideD (beyondD hB5.out hb6)
          have hd7 : w1.heap.size ≤ d' := Nat.le_trans hB5.out.size hd'
          clear HDK HHK hD6 hb6 hB5 hD5 Z5 nx
          go_wp2_with fail
          go_roundw
          case rel => exact ⟨K + 1, d', by omega, rfl, by go_num, hd7, hD7, hB7⟩
          case measure => simp [intOf]; omega
        | false =>
          rw [t2] at HHK nx
          rw [if_neg (by simp)] at nx
          have HTK := hideD (HT.out d _ _ _ w3 hD5.out Z5.out)
          go_wp2_with fail
          refine HHK.out.mono ?_
          rintro e w4 ⟨rfl, rfl⟩
          go_wp2_with fail
          refine HTK.out.mono ?_
          rintro e w5 ⟨rfl, hD6, hb6, -⟩
          have hD7 : Hid (ODraft w5 d n (hullK n m c zc (K + 1))) := by show ODraft _ _ _ _; rw [nx.out]; exact hD6
          have hB7 := hideD (hB5.out.trans (hb6.mono hd))
          clear HTK HHK hD6 hb6 hB5 hD5 Z5 nx
          go_wp2_with fail
          go_roundw
          case rel => exact ⟨K + 1, d, by omega, rfl, by go_num, hd, hD7, hB7⟩
          case measure => simp [intOf]; omega
    · have eK : K = q := by omega
      subst eK
      have HZ := hideD (HO.out d _ wr hD.out (H32.out K) hB.out.size)
      clear hD
      go_wp2_with fail
      refine HZ.out.mono ?_
      rintro e w4 ⟨p, kk, rfl, ho, hb⟩
      go_wp2_with fail
      exact bodyPost_ret (v := .tuple #[.pointer p, .int .i64 kk]) (by simp [results, Tryd.results39, go_sem]) rfl ⟨ho.out, beyondD hB.out hb.out⟩
end Go.Proofs.YtfffcmelkdmjaaaDoor

/-
  The hull of zones, in numbers.
-/
namespace Go.Proofs.YtfffcmelkdmjaaaDoor
open Go.RowKit
set_option linter.unusedVariables false
set_option maxRecDepth 100000
theorem ls_le {n : Nat} {c : Row} {r : Mat} {i j : Nat} {x : Int} : ∀ K, lsM n c K r i j ≤ x ↔ (r i j ≤ x ∧ ∀ k, k < K → k / (n + 1) = i → k % (n + 1) = j → c k ≤ x)
  | 0 => ⟨fun h => ⟨h, fun k hk => by omega⟩, fun h => h.1⟩
  | K + 1 => by
    have ih := ls_le (n := n) (c := c) (r := r) (i := i) (j := j) (x := x) K
    rw [show lsM n c (K + 1) r i j = if i = K / (n + 1) ∧ j = K % (n + 1) then max (lsM n c K r (K / (n + 1)) (K % (n + 1))) (c K) else lsM n c K r i j from rfl]
    by_cases e : i = K / (n + 1) ∧ j = K % (n + 1)
    · rw [if_pos e, ← e.1, ← e.2]
      constructor
      · intro h
        obtain ⟨h1, h2⟩ := ih.1 (by omega)
        refine ⟨h1, fun k hk e1 e2 => ?_⟩
        by_cases q : k = K
        · subst q; omega
        · exact h2 k (by omega) e1 e2
      · rintro ⟨h1, h2⟩
        have := ih.2 ⟨h1, fun k hk => h2 k (by omega)⟩
        have := h2 K (by omega) e.1.symm e.2.symm
        omega
    · rw [if_neg e, ih]
      constructor
      · rintro ⟨h1, h2⟩
        refine ⟨h1, fun k hk e1 e2 => ?_⟩
        by_cases q : k = K
        · subst q; exact absurd ⟨e1.symm, e2.symm⟩ e
        · exact h2 k (by omega) e1 e2
      · rintro ⟨h1, h2⟩
        exact ⟨h1, fun k hk => h2 k (by omega)⟩
theorem eq_of_ge {a b : Int} (h : ∀ x, a ≤ x ↔ b ≤ x) : a = b := Int.le_antisymm ((h b).2 (Int.le_refl _)) ((h a).1 (Int.le_refl _))
theorem ls_at {n m : Nat} {c : Row} {r : Mat} (hm : m = (n + 1) * (n + 1)) {i j : Nat} (hi : i ≤ n) (hj : j ≤ n) : lsM n c m r i j = max (r i j) (c (i * (n + 1) + j)) := by
  refine eq_of_ge fun x => ?_
  rw [ls_le]
  constructor
  · rintro ⟨h1, h2⟩
    have := h2 (i * (n + 1) + j) (by rw [hm]; exact pos_lt hi hj) (place_div hj) (place_mod hj)
    omega
  · intro h
    refine ⟨by omega, fun k hk e1 e2 => ?_⟩
    have : i * (n + 1) + j = k := by rw [← e1, ← e2, Nat.mul_comm]; exact Nat.div_add_mod k (n + 1)
    rw [← this]
    omega
def maxR (c d : Row) : Row := fun j => max (c j) (d j)
/-- The cells of a hull. -/
def hr (c : Row) (zc : Nat → Row) : Nat → Row
  | 0 => c
  | K + 1 => if decide (zc K 0 < 1) = true then hr c zc K else if decide (hr c zc K 0 < 1) = true then zc K else maxR (hr c zc K) (zc K)
theorem hull_at {n m : Nat} {c : Row} {zc : Nat → Row} (hm : m = (n + 1) * (n + 1)) : ∀ K i j, i ≤ n → j ≤ n → hullK n m c zc K i j = hr c zc K (i * (n + 1) + j)
  | 0, i, j, hi, hj => oR_at hm hi hj
  | K + 1, i, j, hi, hj => by
    have ih := hull_at (c := c) (zc := zc) hm K
    have h0 := ih 0 0 (by omega) (by omega)
    rw [Nat.zero_mul, Nat.zero_add] at h0
    unfold hullK hr
    rw [h0]
    by_cases e1 : decide (zc K 0 < 1) = true
    · rw [if_pos e1, if_pos e1]; exact ih i j hi hj
    · rw [if_neg e1, if_neg e1]
      by_cases e2 : decide (hr c zc K 0 < 1) = true
      · rw [if_pos e2, if_pos e2]; exact oR_at hm hi hj
      · rw [if_neg e2, if_neg e2, ls_at hm hi hj, ih i j hi hj]; rfl
theorem hull_rows {n m : Nat} {c : Row} {zc : Nat → Row} (hm : m = (n + 1) * (n + 1)) (K : Nat) : rowsL n (hullK n m c zc K) (n + 1) = listOf (hr c zc K) m := rows_of hm (hull_at hm K)
theorem narAll_of {n : Nat} {p : Mat} : ∀ m, (∀ k, k < m → narOk (flat n p k) = true) → narAll n p m = true
  | 0, _ => rfl
  | m + 1, h => by simp only [narAll, narAll_of m fun k hk => h k (by omega), h m (by omega), Bool.and_self]
theorem nar_max {x y : Int} (hx : narOk x = true) (hy : narOk y = true) : narOk (max x y) = true ∧ narB (max x y) = max (narB x) (narB y) := by
  have ho := opn_val
  by_cases l : x ≤ y
  · rw [show max x y = y by omega]
    refine ⟨hy, ?_⟩
    rcases narOk_cases hx with ⟨h1, h2⟩ | ⟨h1, h2, h3, h4⟩ <;> rcases narOk_cases hy with ⟨k1, k2⟩ | ⟨k1, k2, k3, k4⟩ <;> rw [h2, k2] <;> omega
  · rw [show max x y = x by omega]
    refine ⟨hx, ?_⟩
    rcases narOk_cases hx with ⟨h1, h2⟩ | ⟨h1, h2, h3, h4⟩ <;> rcases narOk_cases hy with ⟨k1, k2⟩ | ⟨k1, k2, k3, k4⟩ <;> rw [h2, k2] <;> omega
theorem full_max {n m : Nat} {p q : Mat} {c d : Row} (hm : m = (n + 1) * (n + 1)) (h1 : FullC n m p c) (h2 : FullC n m q d) : FullC n m (fun i j => max (p i j) (q i j)) (maxR c d) := by
  have fx : ∀ i j, i ≤ n → j ≤ n → Fin' 144115188075855872 (max (p i j) (q i j)) := fun i j hi hj => by
    by_cases l : p i j ≤ q i j
    · rw [show max (p i j) (q i j) = q i j by omega]; exact h2.cl.fin i j hi hj
    · rw [show max (p i j) (q i j) = p i j by omega]; exact h1.cl.fin i j hi hj
  have ok : ∀ k, k < m → narOk (flat n (fun i j => max (p i j) (q i j)) k) = true ∧ narB (flat n (fun i j => max (p i j) (q i j)) k) = max (narB (flat n p k)) (narB (flat n q k)) := fun k hk => nar_max (narAll_at h1.nar k hk) (narAll_at h2.nar k hk)
  refine ⟨⟨fx, fun i hi => ?_, fun k hk i j hi hj => ?_⟩, fun j hj => ?_, narAll_of m fun k hk => (ok k hk).1, ?_⟩
  · show max (p i i) (q i i) = 1
    rw [h1.cl.one i hi, h2.cl.one i hi]
    rfl
  · have hk' : k ≤ n := by omega
    have m1 : F (max (p i k) (q i k)) := (fx i k hi hk').mono (by decide)
    have m2 : F (max (p k j) (q k j)) := (fx k j hk' hj).mono (by decide)
    have t1 := h1.cl.tri k hk i j hi hj
    have t2 := h2.cl.tri k hk i j hi hj
    have u1 := pl_mono ((h1.cl.fin i k hi hk').mono (by decide)) ((h1.cl.fin k j hk' hj).mono (by decide)) m1 m2 (show p i k ≤ max (p i k) (q i k) by omega) (show p k j ≤ max (p k j) (q k j) by omega)
    have u2 := pl_mono ((h2.cl.fin i k hi hk').mono (by decide)) ((h2.cl.fin k j hk' hj).mono (by decide)) m1 m2 (show q i k ≤ max (p i k) (q i k) by omega) (show q k j ≤ max (p k j) (q k j) by omega)
    show max (p i j) (q i j) ≤ _
    omega
  · show max (p 0 j) (q 0 j) ≤ 1
    have := h1.low j hj
    have := h2.low j hj
    omega
  · funext k
    show max (c k) (d k) = _
    rw [h1.cells, h2.cells]
    unfold cellsUpto
    by_cases hk : k < m
    · rw [if_pos hk, if_pos hk, if_pos hk, (ok k hk).2]
    · rw [if_neg hk, if_neg hk, if_neg hk]; rfl
theorem zc_hr {n m : Nat} {c : Row} {zc : Nat → Row} (hm : m = (n + 1) * (n + 1)) (h : ZC n m c) (hz : ∀ k, ZC n m (zc k)) : ∀ K, ZC n m (hr c zc K)
  | 0 => h
  | K + 1 => by
    unfold hr
    split
    · exact zc_hr hm h hz K
    · rename_i e1
      split
      · exact hz K
      · rename_i e2
        rcases zc_hr hm h hz K with e | ⟨p, hp⟩
        · rw [e] at e2; exact absurd rfl e2
        · rcases hz K with e | ⟨q, hq⟩
          · rw [e] at e1; exact absurd rfl e1
          · exact .inr ⟨_, full_max hm hp hq⟩
/-- A zone's cells make the zone again. -/
theorem zc_zone {n m : Nat} {c : Row} (hn : n ≤ 8) (hm : m = (n + 1) * (n + 1)) (h : ZC n m c) : zoneR n (drf n m (listOf c m)) = some c := by
  rcases h with rfl | ⟨p, hp⟩
  · refine zone_hollow ?_
    rw [drf_at n m _ hm 0 0 (by omega) (by omega), listOf_get _ _ _ (show 0 * (n + 1) + 0 < m by rw [hm, Nat.zero_mul, Nat.zero_add]; exact Nat.mul_pos (Nat.succ_pos n) (Nat.succ_pos n))]
    decide
  · have e : ∀ i j, i ≤ n → j ≤ n → drf n m (listOf c m) i j = p i j := fun i j hi hj => by
      rw [drf_at n m _ hm i j hi hj, listOf_get _ _ _ (by rw [hm]; exact pos_lt hi hj), ← oR_at (c := c) hm hi hj]
      exact hp.pm hm hi hj
    have rR : RightL m (listOf c m) := fun k hk => by
      rw [listOf_get _ _ _ hk]
      have := zc_right hm (.inr ⟨p, hp⟩ : ZC n m c) k
      simpa only [rightB, decide_eq_true_eq] using this
    have O := drf_ok n m _ hm rR
    obtain ⟨p', h1, h2⟩ := close_above hn hp.cl O (fun i j hi hj => by rw [e i j hi hj]; exact Int.le_refl _)
    have R := close_rounds hn O.fin O.diag h1
    have eq : ∀ i j, i ≤ n → j ≤ n → p' i j = p i j := fun i j hi hj => Int.le_antisymm (by have := R.le i j hi hj; rw [e i j hi hj] at this; exact this) (h2 i j hi hj)
    have n1 : narAll n p' ((n + 1) * (n + 1)) = true := by rw [narAll_congr eq _ (Nat.le_refl _), ← hm]; exact hp.nar
    have n2 : cellsUpto n p' ((n + 1) * (n + 1)) = c := by rw [cellsUpto_congr eq _ (Nat.le_refl _), ← hm]; exact hp.cells.symm
    simp [zoneR, h1, n1, n2]
/-- Whether a zone includes another one. -/
def incB (m : Nat) (c d : Row) : Bool := decide (d 0 < 1) || nless c d m
theorem incB_iff {m : Nat} {c d : Row} : incB m c d = true ↔ (d 0 < 1 ∨ ∀ j, j < m → d j ≤ c j) := by
  unfold incB
  rw [Bool.or_eq_true, decide_eq_true_eq, nless_iff]
theorem inc_any (b o n m : Nat) (c d : Row) (w : World) (hz : ZoneAt w b n c) (hy : ZoneAt w o n d) (hn : n ≤ 8) (hm : m = (n + 1) * (n + 1)) :
    Calls Tryd.prog 50 #[.pointer (some ⟨b, 0, none⟩), .pointer (some ⟨o, 0, none⟩)] w fun e w' => e = .returned (.bool (incB m c d)) ∧ Below w.heap.size w w' := by
  unfold incB
  cases e : decide (d 0 < 1) with
  | true => exact includes_empty b o n c d w hz hy hn e
  | false => rw [Bool.false_or, hm]; exact includes_some b o n c d w hz hy hn e
theorem hr_cases (c : Row) (zc : Nat → Row) (K : Nat) : (zc K 0 < 1 ∧ hr c zc (K + 1) = hr c zc K) ∨ (¬ zc K 0 < 1 ∧ hr c zc K 0 < 1 ∧ hr c zc (K + 1) = zc K) ∨ (¬ zc K 0 < 1 ∧ ¬ hr c zc K 0 < 1 ∧ hr c zc (K + 1) = maxR (hr c zc K) (zc K)) := by
  rw [show hr c zc (K + 1) = if decide (zc K 0 < 1) = true then hr c zc K else if decide (hr c zc K 0 < 1) = true then zc K else maxR (hr c zc K) (zc K) from rfl]
  by_cases e1 : zc K 0 < 1
  · exact .inl ⟨e1, if_pos (decide_eq_true e1)⟩
  · rw [if_neg (by simpa using e1)]
    by_cases e2 : hr c zc K 0 < 1
    · exact .inr (.inl ⟨e1, e2, if_pos (decide_eq_true e2)⟩)
    · exact .inr (.inr ⟨e1, e2, if_neg (by simpa using e2)⟩)
theorem hr_up {m : Nat} {c e : Row} {zc : Nat → Row} (mp : 0 < m) {K : Nat} (h : incB m (hr c zc K) e = true) : incB m (hr c zc (K + 1)) e = true := by
  rw [incB_iff] at *
  rcases h with h | h
  · exact .inl h
  · rcases hr_cases c zc K with ⟨_, q⟩ | ⟨_, q0, q⟩ | ⟨_, _, q⟩
    · rw [q]; exact .inr h
    · have := h 0 mp
      exact .inl (by omega)
    · rw [q]
      exact .inr fun j hj => by have := h j hj; unfold maxR; omega
theorem hr_incl {m : Nat} {c : Row} {zc : Nat → Row} (mp : 0 < m) : ∀ K, incB m (hr c zc K) c = true ∧ ∀ k, k < K → incB m (hr c zc K) (zc k) = true
  | 0 => ⟨incB_iff.2 (.inr fun j _ => Int.le_refl _), fun k hk => by omega⟩
  | K + 1 => by
    obtain ⟨h1, h2⟩ := hr_incl (c := c) (zc := zc) mp K
    refine ⟨hr_up mp h1, fun k hk => ?_⟩
    by_cases q : k = K
    · subst q
      rw [incB_iff]
      rcases hr_cases c zc k with ⟨q, _⟩ | ⟨_, _, q⟩ | ⟨_, _, q⟩
      · exact .inl q
      · rw [q]; exact .inr fun j _ => Int.le_refl _
      · rw [q]; exact .inr fun j _ => by unfold maxR; omega
    · exact hr_up mp (h2 k (by omega))
theorem hr_least {m : Nat} {c o : Row} {zc : Nat → Row} (mp : 0 < m) (h : incB m o c = true) : ∀ K, (∀ k, k < K → incB m o (zc k) = true) → incB m o (hr c zc K) = true
  | 0, _ => h
  | K + 1, hk => by
    have ih := hr_least mp h K fun k hk' => hk k (by omega)
    have hK := hk K (by omega)
    rw [incB_iff] at *
    rcases hr_cases c zc K with ⟨_, q⟩ | ⟨q1, q0, q⟩ | ⟨q1, q0, q⟩
    · rw [q]; exact ih
    · rw [q]; exact hK
    · rw [q]
      right
      intro j hj
      have a := ih.resolve_left q0 j hj
      have b := hK.resolve_left q1 j hj
      unfold maxR
      omega
end Go.Proofs.YtfffcmelkdmjaaaDoor
