/-
  What must be whatever is asked (live of the statements of ops).
-/
import Derived.Test.YtnfkmpickmonoaaGreatQ13
namespace Go.Proofs.YtnfkmpickmonoaaGreat
open Go.RowKit
set_option linter.unusedVariables false
set_option maxRecDepth 100000
theorem narB_32 (x : Int) : -2147483648 ≤ narB x ∧ narB x ≤ 2147483647 := by
  unfold narB
  split
  · omega
  · split <;> omega
theorem zoneR_32 {n : Nat} {r : Mat} {c : Row} (h : zoneR n r = some c) : C32 c := by
  intro k
  unfold zoneR at h
  split at h
  · injection h with h
    subst h
    show -2147483648 ≤ (0 : Int) ∧ (0 : Int) ≤ 2147483647
    omega
  · split at h
    · injection h with h
      subst h
      show -2147483648 ≤ cellsUpto _ _ _ k ∧ cellsUpto _ _ _ k ≤ 2147483647
      unfold cellsUpto
      split
      · exact narB_32 _
      · omega
    · cases h
end Go.Proofs.YtnfkmpickmonoaaGreat

/-
  A draft of ops made as strict as a zone (tighten).
-/
namespace Go.Proofs.YtnfkmpickmonoaaGreat
open Go.RowKit
set_option linter.unusedVariables false
set_option maxRecDepth 100000
/-- The first K cells of a zone as limits. -/
def tgtM (n : Nat) (c : Row) : Nat → Mat → Mat
  | 0, r => r
  | K + 1, r => limM (tgtM n c K r) (K / (n + 1)) (K % (n + 1)) (c K)
set_option maxHeartbeats 4000000 in
theorem otighten_any (d z n m : Nat) (r : Mat) (c : Row) (w : World) (h : n ≤ 8) (hm : m = (n + 1) * (n + 1)) (hD : ODraft w d n r) (hZ : ZoneAt w z n c) :
    Calls Tryz.prog 86 #[.pointer (some ⟨d, 0, none⟩), .pointer (some ⟨z, 0, none⟩)] w fun e w' => e = .returned (.tuple #[]) ∧ ODraft w' d n (tgtM n c m r) ∧ Below d w w' ∧ OnlyB d w w' := by
  have HC := hideD (cells_any z n c w hZ h)
  have HS : Hid (∀ w, Calls Tryz.prog 114 #[.agg #[.int .i64 n]] w fun e w' => e = .returned (.int .i64 ((n + 1 : Nat) : Int)) ∧ Below w.heap.size w w') := fun w => oside_any n w h
  have HL : Hid (∀ (i j : Nat) (x : Int) r w, i ≤ 8 → j ≤ 8 → ODraft w d n r → _) := fun i j x r w i8 j8 hD => limit_any d n i j x r w i8 j8 hD
  have HQ : Hid (∀ k, k < m → k / (n + 1) ≤ n ∧ k % (n + 1) ≤ n) := fun k hk => ⟨by rw [hm] at hk; have := Nat.div_lt_of_lt_mul hk; omega, by have := Nat.mod_lt k (show 0 < n + 1 by omega); omega⟩
  have HT : Hid (∀ k : Nat, IntKind.i64.wrap ((k : Int) / ((n + 1 : Nat) : Int)) = IntKind.i64.wrap ((k / (n + 1) : Nat) : Int) ∧ (k : Int) % ((n + 1 : Nat) : Int) = ((k % (n + 1) : Nat) : Int)) := fun k => ⟨by rw [← Int.natCast_ediv], by rw [← Int.natCast_emod]⟩
  have hm81 : m ≤ 81 := by rw [hm]; exact Nat.mul_le_mul (show n + 1 ≤ 9 by omega) (show n + 1 ≤ 9 by omega)
  have D0 := hideD hD
  have dl := hD.lt
  rw [← hm] at HC
  clear hD hZ hm
  go_enter Tryz.func86, Tryz.ntmps86
  go_wp2_with fail
  refine HC.out.mono ?_
  rintro e w1 ⟨⟨v, rfl, g, cap, rfl, hg, hgl, hr⟩, hb⟩
  have hD1 := hideD (D0.out.past hb)
  have hB1 := hideD (hb.mono (Nat.le_of_lt dl))
  have hO1 := hideD (OnlyB.below (d := d) hb)
  have hG : Hid (g < w1.heap.size ∧ ∀ k, k < m → w1.cell? ⟨g, k, none⟩ = some (.int .i32 (c k))) := ⟨hgl, fun k hk => by
    have := hr k (by rw [listOf_len]; exact hk)
    rw [listOf_get c _ k hk] at this
    simpa using this⟩
  have hgd : Hid (¬ g = d) := by show ¬ g = d; omega
  clear hr hb HC D0 hg hgl
  rw [listOf_len]
  have s0 : ¬ ((n + 1 : Nat) : Int) = 0 := by omega
  have m1 : (m : Int) ≤ 81 := by omega
  go_wp2_with fail
  go_loopw [9] (fun s wr => ∃ (K : Nat), K ≤ m ∧ s = .int .i64 K ∧ Hid (ODraft wr d n (tgtM n c K r)) ∧ Hid (Below d w wr) ∧ Hid (OnlyB d w wr) ∧ Hid (g < wr.heap.size ∧ ∀ k, k < m → wr.cell? ⟨g, k, none⟩ = some (.int .i32 (c k)))) (fun s _ => m - (intOf s).toNat)
  case atStart => exact ⟨0, by omega, rfl, hD1, hB1, hO1, hG⟩
  case round =>
    obtain ⟨K, hK, rfl, hD, hB, hO, hC⟩ := hrel
    clear hD1 hB1 hO1 hG
    by_cases ck : K < m
    · have hrow := hC.out.2 K ck
      obtain ⟨i1, j1⟩ := HQ.out K ck
      obtain ⟨t1, t2⟩ := HT.out K
      have nx : Hid (tgtM n c (K + 1) r = limM (tgtM n c K r) (K / (n + 1)) (K % (n + 1)) (c K)) := rfl
      generalize tgtM n c K r = rK at *
      generalize K / (n + 1) = i at *
      generalize K % (n + 1) = j at *
      have wi : IntKind.i64.wrap ((i : Nat) : Int) = (i : Int) := by rw [IntKind.wrap_i64]; omega
      rw [wi] at t1
      have xb : Hid (∀ k, k < m → c k = c k) := fun _ _ => rfl
      generalize ex : c K = x at *
      clear ex
      generalize ((n + 1 : Nat) : Int) = s at *
      have k0 : (0 : Int) ≤ (K : Int) := by omega
      have k1 : (K : Int) < (m : Int) := by omega
      have t5 : (K : Int).tmod s = (j : Int) := by rw [Int.tmod_eq_emod_of_nonneg (by omega)]; exact t2
      have q0 := hD.out.clocks
      have B2 := Below.refl wr.heap.size wr
      have HLK : Hid (∀ w2, Below wr.heap.size wr w2 → _) := fun w2 hb => HL.out i j x rK w2 (by omega) (by omega) (hD.out.past hb)
      have hF : Hid (∀ w2 w7, Below wr.heap.size wr w2 → Below d w2 w7 → OnlyB d w2 w7 → Below d w w7 ∧ OnlyB d w w7 ∧ (g < w7.heap.size ∧ ∀ k, k < m → w7.cell? ⟨g, k, none⟩ = some (.int .i32 (c k)))) := fun w2 w7 h1 h2 h3 => ⟨hB.out.trans ((h1.mono (Nat.le_of_lt hD.out.lt)).trans h2), (hO.out.trans (OnlyB.below h1)).trans h3, Nat.lt_of_lt_of_le hC.out.1 (Nat.le_trans h1.size h3.1), fun k hk => (h3.cell (p := ⟨g, k, none⟩) (Nat.lt_of_lt_of_le hC.out.1 h1.size) hgd.out).trans ((h1.cell (p := ⟨g, k, none⟩) hC.out.1).trans (hC.out.2 k hk))⟩
      clear hD hB hO hC xb
      go_upto_region 3 with (fail)
      go_region_held3 (fun w2 => w2.cell? ⟨d, 0, none⟩ = some (.int .i64 n))
        (first | with_reducible assumption | go_keep)
        (first
          | (go_at_call 114; refine (HS.out _).mono ?_; rintro e' w2 ⟨rfl, hb⟩; have s9 := kc ⟨d, 0, none⟩ (.int .i64 n) hb (by first | assumption | simp [go_sem, *]); have s1 := beyondD (w := wr) (by first | assumption | (apply Below.drew; assumption)) hb)
          | (go_at_call 112; refine (HLK.out _ (by first | with_reducible assumption | with_reducible exact Below.drew (by with_reducible assumption))).mono ?_; rintro e' w7 ⟨rfl, hD7, hb7, hO7⟩; have s9 := hD7.clocks; have s4 := hideD (hF.out _ _ (by first | with_reducible assumption | with_reducible exact Below.drew (by with_reducible assumption)) hb7 hO7)))
      all_goals
        have R7 : Hid (ODraft w7 d n (tgtM n c (K + 1) r)) := by show ODraft _ _ _ _; rw [nx.out]; exact hD7
        have F1 := hideD s4.out.1
        have F2 := hideD s4.out.2.1
        have F3 := hideD s4.out.2.2
        clear hD7 hb7 hO7 s9 s4 s1 hF HLK nx B2 q0 hrow
        go_wp2_with fail
        go_roundw
        case rel => exact ⟨K + 1, by omega, by go_num, R7, F1, F2, F3⟩
        case measure => simp [intOf]; omega
    · have eK : K = m := by omega
      subst eK
      go_wp2_with fail
      go_end0
      exact ⟨rfl, hD.out, hB.out, hO.out⟩
end Go.Proofs.YtnfkmpickmonoaaGreat

/-
  The contracts of ops at nil zones; joinable.
-/
namespace Go.Proofs.YtnfkmpickmonoaaGreat
open Go.RowKit
set_option linter.unusedVariables false
set_option maxRecDepth 100000
/-- A zone's pointer, and how many clocks it has; none: nil. -/
abbrev ZP := Option (Nat × Nat)
def ptrV : ZP → Value
  | none => .pointer none
  | some (b, _) => .pointer (some ⟨b, 0, none⟩)
def ZPs (w : World) (g off : Nat) (l : List ZP) : Prop := ∀ k, k < l.length → w.cell? ⟨g, off + k, none⟩ = some (ptrV (l.getD k none)) ∧ ∀ b m, l.getD k none = some (b, m) → w.cell? ⟨b, 0, none⟩ = some (.int .i64 (m : Int))
def jn (n : Nat) (l : List ZP) : Nat → Int
  | 0 => 0
  | K + 1 => match l.getD K none with
    | some (_, m) => if m = n then jn n l K else 11
    | none => jn n l K
def nn (l : List ZP) : Nat → Bool
  | 0 => true
  | K + 1 => nn l K && (l.getD K none).isSome
theorem nn_false {l : List ZP} : ∀ {k : Nat} (m : Nat), k ≤ m → nn l k = false → nn l m = false := by
  intro k m h e
  induction m with
  | zero => obtain rfl : k = 0 := by omega
            exact e
  | succ m ih =>
    by_cases q : k = m + 1
    · subst q; exact e
    · simp [nn, ih (by omega)]
def joinE (n : Nat) (l : List ZP) : Int := if nn l l.length = true then jn n l l.length else 1
set_option maxHeartbeats 1000000 in
theorem join_main (b n g off cap q : Nat) (l : List ZP) (w : World) (h0 : w.cell? ⟨b, 0, none⟩ = some (.int .i64 (n : Int))) (hl : l.length = q) (hq : q ≤ 9223372036854775807) (hp : ZPs w g off l) :
    Calls Tryz.prog 84 #[.pointer (some ⟨b, 0, none⟩), .slice (some ⟨g, off, none⟩) q cap] w fun e w' => e = .returned (.int .i64 (joinE n l)) ∧ w' = w := by
  have HD0 := hideD (dimZ_any b n w h0)
  have HP := hideD hp
  have HJ1 : Hid (nn l q = false → joinE n l = 1) := fun e => by simp [joinE, hl, e]
  have HJ2 : Hid (nn l q = true → joinE n l = jn n l q) := fun e => by simp [joinE, hl, e]
  clear hp h0
  go_enter Tryz.func84, Tryz.ntmps84
  go_wp2_with fail
  go_loopw [5, 12] (fun e s wr => ∃ (K : Nat), K ≤ q ∧ e = .int .i64 (jn n l K) ∧ s = .int .i64 (K : Int) ∧ Hid (nn l K = true) ∧ wr = w) (fun _ s _ => q - (intOf s).toNat)
  case atStart => exact ⟨0, by omega, rfl, rfl, rfl, rfl⟩
  case round =>
    obtain ⟨K, hK, rfl, rfl, hN, rfl⟩ := hrel
    by_cases ck : K < q
    · have k0 : (0 : Int) ≤ (K : Int) := by omega
      have k1 : (K : Int) < (q : Int) := by omega
      obtain ⟨c0, c1⟩ := HP.out K (by omega)
      have st : Hid (nn l (K + 1) = (l.getD K none).isSome) := by show _ = _; simp [nn, hN.out]
      have st2 : Hid (jn n l (K + 1) = match l.getD K none with | some (_, m) => if m = n then jn n l K else 11 | none => jn n l K) := rfl
      generalize l.getD K none = x at *
      cases x with
      | none =>
        have st3 : Hid (nn l q = false) := nn_false (k := K + 1) q (by omega) st.out
        have fin := hideD (HJ1.out st3.out)
        clear st st2 c1
        simp only [ptrV] at c0
        go_wp2_with fail
        go_ret
        exact ⟨by rw [fin.out]; rfl, rfl⟩
      | some x =>
        obtain ⟨zb, zm⟩ := x
        have c1 := c1 zb zm rfl
        have HD1 := hideD (dimZ_any zb zm wr c1)
        simp only [ptrV] at c0
        by_cases e : zm = n
        · have t1 : ((zm : Int) != (n : Int)) = false := by simp [e]
          have st3 : Hid (jn n l (K + 1) = jn n l K) := by show _ = _; rw [st2.out]; simp [e]
          go_wp2_with fail
          refine HD1.out.mono ?_
          rintro e' w2 ⟨rfl, rfl⟩
          go_wp2_with fail
          refine HD0.out.mono ?_
          rintro e' w2 ⟨rfl, rfl⟩
          go_wp2_with fail
          go_roundw
          case rel => exact ⟨K + 1, by omega, by rw [st3.out], by go_num, st, by trivial⟩
          case measure => simp [intOf]; omega
        · have t1 : ((zm : Int) != (n : Int)) = true := by simp; omega
          have st3 : Hid (jn n l (K + 1) = 11) := by show _ = _; rw [st2.out]; simp [e]
          go_wp2_with fail
          refine HD1.out.mono ?_
          rintro e' w2 ⟨rfl, rfl⟩
          go_wp2_with fail
          refine HD0.out.mono ?_
          rintro e' w2 ⟨rfl, rfl⟩
          go_wp2_with fail
          go_roundw
          case rel => exact ⟨K + 1, by omega, by rw [st3.out], by go_num, st, by trivial⟩
          case measure => simp [intOf]; omega
    · have eK : K = q := by omega
      subst eK
      have fin := hideD (HJ2.out hN.out)
      go_wp2_with fail
      go_ret
      exact ⟨by rw [fin.out]; rfl, rfl⟩
end Go.Proofs.YtnfkmpickmonoaaGreat

/-
  And of the program: what zones have in common.
-/
namespace Go.Proofs.YtnfkmpickmonoaaGreat
open Go.RowKit
set_option linter.unusedVariables false
set_option maxRecDepth 100000
theorem tgtM_32 {n : Nat} {c : Row} {r : Mat} (h : R32 r) (hc : C32 c) : ∀ K, R32 (tgtM n c K r)
  | 0 => h
  | K + 1 => limM_32 (tgtM_32 h hc K) (hc K).1
/-- A draft with the limits of the first K zones. -/
def andK (n m : Nat) (zc : Nat → Row) : Nat → Mat → Mat
  | 0, r => r
  | K + 1, r => tgtM n (zc K) m (andK n m zc K r)
theorem andK_32 {n m : Nat} {zc : Nat → Row} {r : Mat} (h : R32 r) (hc : ∀ k, C32 (zc k)) : ∀ K, R32 (andK n m zc K r)
  | 0 => h
  | K + 1 => tgtM_32 (andK_32 h hc K) (hc K) m
theorem join_ok (b n g off cap q : Nat) (zb : Nat → Nat) (w : World) (h0 : w.cell? ⟨b, 0, none⟩ = some (.int .i64 (n : Int))) (hq : q ≤ 9223372036854775807) (hp : ∀ k, k < q → w.cell? ⟨g, off + k, none⟩ = some (.pointer (some ⟨zb k, 0, none⟩))) (hn : ∀ k, k < q → w.cell? ⟨zb k, 0, none⟩ = some (.int .i64 (n : Int))) :
    Calls Tryz.prog 84 #[.pointer (some ⟨b, 0, none⟩), .slice (some ⟨g, off, none⟩) q cap] w fun e w' => e = .returned (.int .i64 0) ∧ w' = w := by
  have gd : ∀ k, k < q → ((List.range q).map fun k => (some (zb k, n) : ZP)).getD k none = some (zb k, n) := fun k hk => by simp [List.getD, hk]
  have len : ((List.range q).map fun k => (some (zb k, n) : ZP)).length = q := by simp
  have H := join_main b n g off cap q ((List.range q).map fun k => (some (zb k, n) : ZP)) w h0 len hq (fun k hk => by
    rw [len] at hk
    rw [gd k hk]
    exact ⟨hp k hk, fun b' m' e => by cases e; exact hn k hk⟩)
  have hj : ∀ K, K ≤ q → jn n ((List.range q).map fun k => (some (zb k, n) : ZP)) K = 0 ∧ nn ((List.range q).map fun k => (some (zb k, n) : ZP)) K = true := by
    intro K
    induction K with
    | zero => intro _; exact ⟨rfl, rfl⟩
    | succ K ih =>
      intro hK
      obtain ⟨i1, i2⟩ := ih (by omega)
      constructor
      · unfold jn
        rw [gd K (by omega)]
        simp [i1]
      · unfold nn
        rw [i2, gd K (by omega)]
        rfl
  have e : joinE n ((List.range q).map fun k => (some (zb k, n) : ZP)) = 0 := by
    unfold joinE
    rw [len, if_pos (hj q (Nat.le_refl _)).2, (hj q (Nat.le_refl _)).1]
  rw [e] at H
  exact H
set_option maxHeartbeats 4000000 in
theorem and_main (b n g off cap q : Nat) (c : Row) (zb : Nat → Nat) (zc : Nat → Row) (w : World) (h : n ≤ 8) (hz : ZoneAt w b n c) (hc : C32 c) (hq : q ≤ 9223372036854775807) (hp : ∀ k, k < q → w.cell? ⟨g, off + k, none⟩ = some (.pointer (some ⟨zb k, 0, none⟩))) (hy : ∀ k, k < q → ZoneAt w (zb k) n (zc k)) (hyc : ∀ k, C32 (zc k)) :
    Calls Tryz.prog 55 #[.pointer (some ⟨b, 0, none⟩), .slice (some ⟨g, off, none⟩) q cap] w fun e w' => OpsOut w' w.heap.size n e (andK n ((n + 1) * (n + 1)) zc q (oR n c ((n + 1) * (n + 1)))) ∧ Below w.heap.size w w' := by
  have HJ := hideD (join_ok b n g off cap q zb w hz.clocks hq hp fun k hk => (hy k hk).clocks)
  have HD := hideD (odraft_any b n c w h hz)
  generalize hm : (n + 1) * (n + 1) = m at *
  have HT : Hid (∀ d z r c w, ODraft w d n r → ZoneAt w z n c → _) := fun d z r c w h1 h2 => otighten_any d z n m r c w h hm.symm h1 h2
  have HO : Hid (∀ d r w', ODraft w' d n r → R32 r → w.heap.size ≤ w'.heap.size → _) := fun d r w' h1 h2 h3 => ozone_out d n w.heap.size r w' h h1 h2 h3
  have H32 := hideD (andK_32 (n := n) (m := m) (oR_32 (n := n) (K := m) hc) hyc)
  generalize oR n c m = r0 at *
  have HP := hideD hp
  have HY := hideD hy
  have q1 : (q : Int) ≤ 9223372036854775807 := by omega
  have gl : Hid (∀ k, k < q → g < w.heap.size) := fun k hk => World.block_lt_of_cell? _ _ (hp k hk)
  clear hz hc hp hy hyc hm
  go_enter Tryz.func55, Tryz.ntmps55
  go_wp2_with fail
  refine HJ.out.mono ?_
  rintro e w1 ⟨rfl, rfl⟩
  go_wp2_with fail
  refine HD.out.mono ?_
  rintro e w2 ⟨⟨d, rfl, hd, hD2⟩, hb⟩
  have hD3 := hideD hD2
  have hB3 := hideD hb
  clear HJ HD hD2 hb
  go_wp2_with fail
  go_loopw [20] (fun s wr => ∃ (K : Nat), K ≤ q ∧ s = .int .i64 (K : Int) ∧ Hid (ODraft wr d n (andK n m zc K r0)) ∧ Hid (Below w1.heap.size w1 wr)) (fun s _ => q - (intOf s).toNat)
  case atStart => exact ⟨0, by omega, rfl, hD3, hB3⟩
  case round =>
    obtain ⟨K, hK, rfl, hD, hB⟩ := hrel
    clear hD3 hB3
    by_cases ck : K < q
    · have k0 : (0 : Int) ≤ (K : Int) := by omega
      have k1 : (K : Int) < (q : Int) := by omega
      have c0 := kc _ _ hB.out (HP.out K ck)
      have HTK := hideD (HT.out d (zb K) _ (zc K) wr hD.out ((HY.out K ck).past hB.out))
      go_wp2_with fail
      refine HTK.out.mono ?_
      rintro e w3 ⟨rfl, hD4, hb4, -⟩
      have hD5 : Hid (ODraft w3 d n (andK n m zc (K + 1) r0)) := hD4
      have hB5 := hideD (hB.out.trans (hb4.mono hd))
      clear hD4 hb4 HTK hD hB c0
      go_wp2_with fail
      go_roundw
      case rel => exact ⟨K + 1, by omega, by go_num, hD5, hB5⟩
      case measure => simp [intOf]; omega
    · have eK : K = q := by omega
      subst eK
      have HZ := hideD (HO.out d _ wr hD.out (H32.out K) hB.out.size)
      clear hD
      go_wp2_with fail
      refine HZ.out.mono ?_
      rintro e w4 ⟨p, kk, rfl, ho, hb⟩
      go_wp2_with fail
      exact bodyPost_ret (v := .tuple #[.pointer p, .int .i64 kk]) (by simp [results, Tryz.results55, go_sem]) rfl ⟨ho.out, beyondD hB.out hb.out⟩
end Go.Proofs.YtnfkmpickmonoaaGreat
