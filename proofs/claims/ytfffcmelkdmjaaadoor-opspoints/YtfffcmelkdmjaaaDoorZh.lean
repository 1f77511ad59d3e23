/-
  A draft of ops made as strict as a zone (tighten).
-/
import Derived.Test.YtfffcmelkdmjaaaDoorZe
import Derived.Test.YtfffcmelkdmjaaaDoorZg
namespace Go.Proofs.YtfffcmelkdmjaaaDoor
open Go.RowKit
set_option linter.unusedVariables false
set_option maxRecDepth 100000
/-- The first K cells of a zone as limits. -/
def tgtM (n : Nat) (c : Row) : Nat → Mat → Mat
  | 0, r => r
  | K + 1, r => limM (tgtM n c K r) (K / (n + 1)) (K % (n + 1)) (c K)
set_option maxHeartbeats 4000000 in
theorem otighten_any (d z n m : Nat) (r : Mat) (c : Row) (w : World) (h : n ≤ 8) (hm : m = (n + 1) * (n + 1)) (hD : ODraft w d n r) (hZ : ZoneAt w z n c) :
    Calls Tryd.prog 99 #[.pointer (some ⟨d, 0, none⟩), .pointer (some ⟨z, 0, none⟩)] w fun e w' => e = .returned (.tuple #[]) ∧ ODraft w' d n (tgtM n c m r) ∧ Below d w w' ∧ OnlyB d w w' := by
  have HC := hideD (cells_any z n c w hZ h)
  have HS : Hid (∀ w, Calls Tryd.prog 134 #[.agg #[.int .i64 n]] w fun e w' => e = .returned (.int .i64 ((n + 1 : Nat) : Int)) ∧ Below w.heap.size w w') := fun w => oside_any n w h
  have HL : Hid (∀ (i j : Nat) (x : Int) r w, i ≤ 8 → j ≤ 8 → ODraft w d n r → _) := fun i j x r w i8 j8 hD => limit_any d n i j x r w i8 j8 hD
  have HQ : Hid (∀ k, k < m → k / (n + 1) ≤ n ∧ k % (n + 1) ≤ n) := fun k hk => ⟨by rw [hm] at hk; have := Nat.div_lt_of_lt_mul hk; omega, by have := Nat.mod_lt k (show 0 < n + 1 by omega); omega⟩
  have HT : Hid (∀ k : Nat, IntKind.i64.wrap ((k : Int) / ((n + 1 : Nat) : Int)) = IntKind.i64.wrap ((k / (n + 1) : Nat) : Int) ∧ (k : Int) % ((n + 1 : Nat) : Int) = ((k % (n + 1) : Nat) : Int)) := fun k => ⟨by rw [← Int.natCast_ediv], by rw [← Int.natCast_emod]⟩
  have hm81 : m ≤ 81 := by rw [hm]; exact Nat.mul_le_mul (show n + 1 ≤ 9 by omega) (show n + 1 ≤ 9 by omega)
  have D0 := hideD hD
  have dl := hD.lt
  rw [← hm] at HC
  clear hD hZ hm
  go_enter Tryd.func99, Tryd.ntmps99
  go_wp2_with fail
  refine HC.out.mono ?_
  rintro e w1 ⟨⟨v, rfl, g, cap, rfl, hg, hgl, hr⟩, hb⟩
  have hD1 := hideD (D0.out.past hb)
  have hB1 := hideD (hb.mono (Nat.le_of_lt dl))
  have hO1 := hideD (OnlyB.below (d := d) hb)
  have hG : Hid (g < w1.heap.size ∧ ∀ k, k < m → w1.cell? ⟨g, k, none⟩ = some (.int .i32 (c k))) := ⟨hgl, fun k hk => by
    have := hr k (by rw [listOf_len]; exact hk)
    rw [listOf_get c _ k hk] at this
    simpa using this⟩
  have hgd : Hid (¬ g = d) := by show ¬ g = d; omega
  clear hr hb HC D0 hg hgl
  rw [listOf_len]
  have s0 : ¬ ((n + 1 : Nat) : Int) = 0 := by omega
  have m1 : (m : Int) ≤ 81 := by omega
  go_wp2_with fail
  go_loopw [9] (fun s wr => ∃ (K : Nat), K ≤ m ∧ s = .int .i64 K ∧ Hid (ODraft wr d n (tgtM n c K r)) ∧ Hid (Below d w wr) ∧ Hid (OnlyB d w wr) ∧ Hid (g < wr.heap.size ∧ ∀ k, k < m → wr.cell? ⟨g, k, none⟩ = some (.int .i32 (c k)))) (fun s _ => m - (intOf s).toNat)
  case atStart => exact ⟨0, by omega, rfl, hD1, hB1, hO1, hG⟩
  case round =>
    obtain ⟨K, hK, rfl, hD, hB, hO, hC⟩ := hrel
    clear hD1 hB1 hO1 hG
    by_cases ck : K < m
    · have hrow := hC.out.2 K ck
      obtain ⟨i1, j1⟩ := HQ.out K ck
      obtain ⟨t1, t2⟩ := HT.out K
      have nx : Hid (tgtM n c (K + 1) r = limM (tgtM n c K r) (K / (n + 1)) (K % (n + 1)) (c K)) := rfl
      generalize tgtM n c K r = rK at *
      generalize K / (n + 1) = i at *
      generalize K % (n + 1) = j at *
      have wi : IntKind.i64.wrap ((i : Nat) : Int) = (i : Int) := by rw [IntKind.wrap_i64]; omega
      rw [wi] at t1
      have xb : Hid (∀ k, k < m → c k = c k) := fun _ _ => rfl
      generalize ex : c K = x at *
      clear ex
      generalize ((n + 1 : Nat) : Int) = s at *
      have k0 : (0 : Int) ≤ (K : Int) := by omega
      have k1 : (K : Int) < (m : Int) := by omega
      have t5 : (K : Int).tmod s = (j : Int) := by rw [Int.tmod_eq_emod_of_nonneg (by omega)]; exact t2
      have q0 := hD.out.clocks
      have B2 := Below.refl wr.heap.size wr
      have HLK : Hid (∀ w2, Below wr.heap.size wr w2 → _) := fun w2 hb => HL.out i j x rK w2 (by omega) (by omega) (hD.out.past hb)
      have hF : Hid (∀ w2 w7, Below wr.heap.size wr w2 → Below d w2 w7 → OnlyB d w2 w7 → Below d w w7 ∧ OnlyB d w w7 ∧ (g < w7.heap.size ∧ ∀ k, k < m → w7.cell? ⟨g, k, none⟩ = some (.int .i32 (c k)))) := fun w2 w7 h1 h2 h3 => ⟨hB.out.trans ((h1.mono (Nat.le_of_lt hD.out.lt)).trans h2), (hO.out.trans (OnlyB.below h1)).trans h3, Nat.lt_of_lt_of_le hC.out.1 (Nat.le_trans h1.size h3.1), fun k hk => (h3.cell (p := ⟨g, k, none⟩) (Nat.lt_of_lt_of_le hC.out.1 h1.size) hgd.out).trans ((h1.cell (p := ⟨g, k, none⟩) hC.out.1).trans (hC.out.2 k hk))⟩
      clear hD hB hO hC xb
      go_upto_region 3 with (fail)
      go_region_held3 (fun w2 => w2.cell? ⟨d, 0, none⟩ = some (.int .i64 n))
        (first | with_reducible assumption | go_keep)
        (first
          | (go_at_call 134; refine (HS.out _).mono ?_; rintro e' w2 ⟨rfl, hb⟩; have s9 := kc ⟨d, 0, none⟩ (.int .i64 n) hb (by first | assumption | simp [go_sem, *]); have s1 := beyondD (w := wr) (by first | assumption | (apply Below.drew; assumption)) hb)
          | (go_at_call 94; refine (HLK.out _ (by first | with_reducible assumption | with_reducible exact Below.drew (by with_reducible assumption))).mono ?_; rintro e' w7 ⟨rfl, hD7, hb7, hO7⟩; have s9 := hD7.clocks; have s4 := hideD (hF.out _ _ (by first | with_reducible assumption | with_reducible exact Below.drew (by with_reducible assumption)) hb7 hO7)))
      all_goals
        have R7 : Hid (ODraft w7 d n (tgtM n c (K + 1) r)) := by show ODraft _ _ _ _; rw [nx.out]; exact hD7
        have F1 := hideD s4.out.1
        have F2 := hideD s4.out.2.1
        have F3 := hideD s4.out.2.2
        clear hD7 hb7 hO7 s9 s4 s1 hF HLK nx B2 q0 hrow
        go_wp2_with fail
        go_roundw
        case rel => exact ⟨K + 1, by omega, by go_num, R7, F1, F2, F3⟩
        case measure => simp [intOf]; omega
    · have eK : K = m := by omega
      subst eK
      go_wp2_with fail
      go_end0
      exact ⟨rfl, hD.out, hB.out, hO.out⟩
end Go.Proofs.YtfffcmelkdmjaaaDoor

/-
  The contracts of ops at nil zones; joinable.
-/
namespace Go.Proofs.YtfffcmelkdmjaaaDoor
open Go.RowKit
set_option linter.unusedVariables false
set_option maxRecDepth 100000
/-- A zone's pointer, and how many clocks it has; none: nil. -/
abbrev ZP := Option (Nat × Nat)
def ptrV : ZP → Value
  | none => .pointer none
  | some (b, _) => .pointer (some ⟨b, 0, none⟩)
def ZPs (w : World) (g off : Nat) (l : List ZP) : Prop := ∀ k, k < l.length → w.cell? ⟨g, off + k, none⟩ = some (ptrV (l.getD k none)) ∧ ∀ b m, l.getD k none = some (b, m) → w.cell? ⟨b, 0, none⟩ = some (.int .i64 (m : Int))
def jn (n : Nat) (l : List ZP) : Nat → Int
  | 0 => 0
  | K + 1 => match l.getD K none with
    | some (_, m) => if m = n then jn n l K else 11
    | none => jn n l K
def nn (l : List ZP) : Nat → Bool
  | 0 => true
  | K + 1 => nn l K && (l.getD K none).isSome
theorem nn_false {l : List ZP} : ∀ {k : Nat} (m : Nat), k ≤ m → nn l k = false → nn l m = false := by
  intro k m h e
  induction m with
  | zero => obtain rfl : k = 0 := by omega
            exact e
  | succ m ih =>
    by_cases q : k = m + 1
    · subst q; exact e
    · simp [nn, ih (by omega)]
def joinE (n : Nat) (l : List ZP) : Int := if nn l l.length = true then jn n l l.length else 1
theorem join_nil (v : Value) (w : World) : Calls Tryd.prog 98 #[.pointer none, v] w fun e w' => e = .returned (.int .i64 1) ∧ w' = w := by
  go_enter Tryd.func98, Tryd.ntmps98
  go_wp2_with fail
  go_ret
  exact ⟨rfl, rfl⟩
theorem join_none (b n cap : Nat) (ad : Option Addr) (w : World) : Calls Tryd.prog 98 #[.pointer (some ⟨b, 0, none⟩), .slice ad 0 cap] w fun e w' => e = .returned (.int .i64 0) ∧ w' = w := by
  go_enter Tryd.func98, Tryd.ntmps98
  go_wp2_with fail
  go_loopw [5, 12] (fun e s wr => e = .int .i64 0 ∧ s = .int .i64 0 ∧ wr = w) (fun _ s _ => 1)
  case atStart => exact ⟨rfl, rfl, rfl⟩
  case round =>
    obtain ⟨rfl, rfl, rfl⟩ := hrel
    go_wp2_with fail
    go_ret
    exact ⟨rfl, rfl⟩
set_option maxHeartbeats 1000000 in
theorem join_main (b n g off cap q : Nat) (l : List ZP) (w : World) (h0 : w.cell? ⟨b, 0, none⟩ = some (.int .i64 (n : Int))) (hl : l.length = q) (hq : q ≤ 9223372036854775807) (hp : ZPs w g off l) :
    Calls Tryd.prog 98 #[.pointer (some ⟨b, 0, none⟩), .slice (some ⟨g, off, none⟩) q cap] w fun e w' => e = .returned (.int .i64 (joinE n l)) ∧ w' = w := by
  have HD0 := hideD (dimZ_any b n w h0)
  have HP := hideD hp
  have HJ1 : Hid (nn l q = false → joinE n l = 1) := fun e => by simp [joinE, hl, e]
  have HJ2 : Hid (nn l q = true → joinE n l = jn n l q) := fun e => by simp [joinE, hl, e]
  clear hp h0
  go_enter Tryd.func98, Tryd.ntmps98
  go_wp2_with fail
  go_loopw [5, 12] (fun e s wr => ∃ (K : Nat), K ≤ q ∧ e = .int .i64 (jn n l K) ∧ s = .int .i64 (K : Int) ∧ Hid (nn l K = true) ∧ wr = w) (fun _ s _ => q - (intOf s).toNat)
  case atStart => exact ⟨0, by omega, rfl, rfl, rfl, rfl⟩
  case round =>
    obtain ⟨K, hK, rfl, rfl, hN, rfl⟩ := hrel
    by_cases ck : K < q
    · have k0 : (0 : Int) ≤ (K : Int) := by omega
      have k1 : (K : Int) < (q : Int) := by omega
      obtain ⟨c0, c1⟩ := HP.out K (by omega)
      have st : Hid (nn l (K + 1) = (l.getD K none).isSome) := by show _ = _; simp [nn, hN.out]
      have st2 : Hid (jn n l (K + 1) = match l.getD K none with | some (_, m) => if m = n then jn n l K else 11 | none => jn n l K) := rfl
      generalize l.getD K none = x at *
      cases x with
      | none =>
        have st3 : Hid (nn l q = false) := nn_false (k := K + 1) q (by omega) st.out
        have fin := hideD (HJ1.out st3.out)
        clear st st2 c1
        simp only [ptrV] at c0
        go_wp2_with fail
        go_ret
        exact ⟨by rw [fin.out]; rfl, rfl⟩
      | some x =>
        obtain ⟨zb, zm⟩ := x
        have c1 := c1 zb zm rfl
        have HD1 := hideD (dimZ_any zb zm wr c1)
        simp only [ptrV] at c0
        by_cases e : zm = n
        · have t1 : ((zm : Int) != (n : Int)) = false := by simp [e]
          have st3 : Hid (jn n l (K + 1) = jn n l K) := by show _ = _; rw [st2.out]; simp [e]
          go_wp2_with fail
          refine HD1.out.mono ?_
          rintro e' w2 ⟨rfl, rfl⟩
          go_wp2_with fail
          refine HD0.out.mono ?_
          rintro e' w2 ⟨rfl, rfl⟩
          go_wp2_with fail
          go_roundw
          case rel => exact ⟨K + 1, by omega, by rw [st3.out], by go_num, st, by trivial⟩
          case measure => simp [intOf]; omega
        · have t1 : ((zm : Int) != (n : Int)) = true := by simp; omega
          have st3 : Hid (jn n l (K + 1) = 11) := by show _ = _; rw [st2.out]; simp [e]
          go_wp2_with fail
          refine HD1.out.mono ?_
          rintro e' w2 ⟨rfl, rfl⟩
          go_wp2_with fail
          refine HD0.out.mono ?_
          rintro e' w2 ⟨rfl, rfl⟩
          go_wp2_with fail
          go_roundw
          case rel => exact ⟨K + 1, by omega, by rw [st3.out], by go_num, st, by trivial⟩
          case measure => simp [intOf]; omega
    · have eK : K = q := by omega
      subst eK
      have fin := hideD (HJ2.out hN.out)
      go_wp2_with fail
      go_ret
      exact ⟨by rw [fin.out]; rfl, rfl⟩
theorem free_nil (v : Value) (w : World) : Calls Tryd.prog 47 #[.pointer none, v] w fun e w' => e = errOf 1 ∧ w' = w := by
  go_enter Tryd.func47, Tryd.ntmps47
  go_wp2_with fail
  exact bodyPost_ret (v := .tuple #[.pointer none, .int .i64 1]) (by simp [results, Tryd.results47, go_sem]) rfl ⟨rfl, rfl⟩
theorem copy_nil (v u : Value) (w : World) : Calls Tryd.prog 54 #[.pointer none, v, u] w fun e w' => e = errOf 1 ∧ w' = w := by
  go_enter Tryd.func54, Tryd.ntmps54
  go_wp2_with fail
  exact bodyPost_ret (v := .tuple #[.pointer none, .int .i64 1]) (by simp [results, Tryd.results54, go_sem]) rfl ⟨rfl, rfl⟩
theorem guards_nil (v : Value) (w : World) : Calls Tryd.prog 31 #[.pointer none, v] w fun e w' => e = errOf 1 ∧ w' = w := by
  go_enter Tryd.func31, Tryd.ntmps31
  go_wp2_with fail
  exact bodyPost_ret (v := .tuple #[.pointer none, .int .i64 1]) (by simp [results, Tryd.results31, go_sem]) rfl ⟨rfl, rfl⟩
theorem keep_nil (v : Value) (w : World) : Calls Tryd.prog 55 #[.pointer none, v] w fun e w' => e = errOf 1 ∧ w' = w := by
  go_enter Tryd.func55, Tryd.ntmps55
  go_wp2_with fail
  exact bodyPost_ret (v := .tuple #[.pointer none, .int .i64 1]) (by simp [results, Tryd.results55, go_sem]) rfl ⟨rfl, rfl⟩
theorem unset_err (v : Value) (x k e : Int) (w : World) (he : (e != 0) = true) (HS : Hid (Calls Tryd.prog 110 #[v, .int .i64 x, .int .i64 k] w fun z w' => z = .returned (.int .i64 e) ∧ Below w.heap.size w w')) :
    Calls Tryd.prog 46 #[v, .int .i64 x, .int .i64 k] w fun z w' => z = errOf e ∧ Below w.heap.size w w' := by
  go_enter Tryd.func46, Tryd.ntmps46
  go_wp2_with fail
  refine HS.out.mono ?_
  rintro z w1 ⟨rfl, hb⟩
  go_wp2_with fail
  exact bodyPost_ret (v := .tuple #[.pointer none, .int .i64 e]) (by simp [results, Tryd.results46, go_sem]) rfl ⟨rfl, hb⟩
theorem and_err (v u : Value) (e : Int) (w : World) (he : (e != 0) = true) (HJ : Hid (Calls Tryd.prog 98 #[v, u] w fun z w' => z = .returned (.int .i64 e) ∧ w' = w)) :
    Calls Tryd.prog 37 #[v, u] w fun z w' => z = errOf e ∧ w' = w := by
  go_enter Tryd.func37, Tryd.ntmps37
  go_wp2_with fail
  refine HJ.out.mono ?_
  rintro z w1 ⟨rfl, rfl⟩
  go_wp2_with fail
  exact bodyPost_ret (v := .tuple #[.pointer none, .int .i64 e]) (by simp [results, Tryd.results37, go_sem]) rfl ⟨rfl, rfl⟩
theorem hull_err (v u : Value) (e : Int) (w : World) (he : (e != 0) = true) (HJ : Hid (Calls Tryd.prog 98 #[v, u] w fun z w' => z = .returned (.int .i64 e) ∧ w' = w)) :
    Calls Tryd.prog 39 #[v, u] w fun z w' => z = errOf e ∧ w' = w := by
  go_enter Tryd.func39, Tryd.ntmps39
  go_wp2_with fail
  refine HJ.out.mono ?_
  rintro z w1 ⟨rfl, rfl⟩
  go_wp2_with fail
  exact bodyPost_ret (v := .tuple #[.pointer none, .int .i64 e]) (by simp [results, Tryd.results39, go_sem]) rfl ⟨rfl, rfl⟩
end Go.Proofs.YtfffcmelkdmjaaaDoor

/-
  And of the program: what zones have in common.
-/
namespace Go.Proofs.YtfffcmelkdmjaaaDoor
open Go.RowKit
set_option linter.unusedVariables false
set_option maxRecDepth 100000
theorem tgtM_32 {n : Nat} {c : Row} {r : Mat} (h : R32 r) (hc : C32 c) : ∀ K, R32 (tgtM n c K r)
  | 0 => h
  | K + 1 => limM_32 (tgtM_32 h hc K) (hc K).1
/-- A draft with the limits of the first K zones. -/
def andK (n m : Nat) (zc : Nat → Row) : Nat → Mat → Mat
  | 0, r => r
  | K + 1, r => tgtM n (zc K) m (andK n m zc K r)
theorem andK_32 {n m : Nat} {zc : Nat → Row} {r : Mat} (h : R32 r) (hc : ∀ k, C32 (zc k)) : ∀ K, R32 (andK n m zc K r)
  | 0 => h
  | K + 1 => tgtM_32 (andK_32 h hc K) (hc K) m
theorem join_ok (b n g off cap q : Nat) (zb : Nat → Nat) (w : World) (h0 : w.cell? ⟨b, 0, none⟩ = some (.int .i64 (n : Int))) (hq : q ≤ 9223372036854775807) (hp : ∀ k, k < q → w.cell? ⟨g, off + k, none⟩ = some (.pointer (some ⟨zb k, 0, none⟩))) (hn : ∀ k, k < q → w.cell? ⟨zb k, 0, none⟩ = some (.int .i64 (n : Int))) :
    Calls Tryd.prog 98 #[.pointer (some ⟨b, 0, none⟩), .slice (some ⟨g, off, none⟩) q cap] w fun e w' => e = .returned (.int .i64 0) ∧ w' = w := by
  have gd : ∀ k, k < q → ((List.range q).map fun k => (some (zb k, n) : ZP)).getD k none = some (zb k, n) := fun k hk => by simp [List.getD, hk]
  have len : ((List.range q).map fun k => (some (zb k, n) : ZP)).length = q := by simp
  have H := join_main b n g off cap q ((List.range q).map fun k => (some (zb k, n) : ZP)) w h0 len hq (fun k hk => by
    rw [len] at hk
    rw [gd k hk]
    exact ⟨hp k hk, fun b' m' e => by cases e; exact hn k hk⟩)
  have hj : ∀ K, K ≤ q → jn n ((List.range q).map fun k => (some (zb k, n) : ZP)) K = 0 ∧ nn ((List.range q).map fun k => (some (zb k, n) : ZP)) K = true := by
    intro K
    induction K with
    | zero => intro _; exact ⟨rfl, rfl⟩
    | succ K ih =>
      intro hK
      obtain ⟨i1, i2⟩ := ih (by omega)
      constructor
      · unfold jn
        rw [gd K (by omega)]
        simp [i1]
      · unfold nn
        rw [i2, gd K (by omega)]
        rfl
  have e : joinE n ((List.range q).map fun k => (some (zb k, n) : ZP)) = 0 := by
    unfold joinE
    rw [len, if_pos (hj q (Nat.le_refl _)).2, (hj q (Nat.le_refl _)).1]
  rw [e] at H
  exact H
set_option maxHeartbeats 4000000 in
theorem and_main (b n g off cap q : Nat) (c : Row) (zb : Nat → Nat) (zc : Nat → Row) (w : World) (h : n ≤ 8) (hz : ZoneAt w b n c) (hc : C32 c) (hq : q ≤ 9223372036854775807) (hp : ∀ k, k < q → w.cell? ⟨g, off + k, none⟩ = some (.pointer (some ⟨zb k, 0, none⟩))) (hy : ∀ k, k < q → ZoneAt w (zb k) n (zc k)) (hyc : ∀ k, C32 (zc k)) :
    Calls Tryd.prog 37 #[.pointer (some ⟨b, 0, none⟩), .slice (some ⟨g, off, none⟩) q cap] w fun e w' => OpsOut w' w.heap.size n e (andK n ((n + 1) * (n + 1)) zc q (oR n c ((n + 1) * (n + 1)))) ∧ Below w.heap.size w w' := by
  have HJ := hideD (join_ok b n g off cap q zb w hz.clocks hq hp fun k hk => (hy k hk).clocks)
  have HD := hideD (odraft_any b n c w h hz)
  generalize hm : (n + 1) * (n + 1) = m at *
  have HT : Hid (∀ d z r c w, ODraft w d n r → ZoneAt w z n c → _) := fun d z r c w h1 h2 => otighten_any d z n m r c w h hm.symm h1 h2
  have HO : Hid (∀ d r w', ODraft w' d n r → R32 r → w.heap.size ≤ w'.heap.size → _) := fun d r w' h1 h2 h3 => ozone_out d n w.heap.size r w' h h1 h2 h3
  have H32 := hideD (andK_32 (n := n) (m := m) (oR_32 (n := n) (K := m) hc) hyc)
  generalize oR n c m = r0 at *
  have HP := hideD hp
  have HY := hideD hy
  have q1 : (q : Int) ≤ 9223372036854775807 := by omega
  have gl : Hid (∀ k, k < q → g < w.heap.size) := fun k hk => World.block_lt_of_cell? _ _ (hp k hk)
  clear hz hc hp hy hyc hm
  go_enter Tryd.func37, Tryd.ntmps37
  go_wp2_with fail
  refine HJ.out.mono ?_
  rintro e w1 ⟨rfl, rfl⟩
  go_wp2_with fail
  refine HD.out.mono ?_
  rintro e w2 ⟨⟨d, rfl, hd, hD2⟩, hb⟩
  have hD3 := hideD hD2
  have hB3 := hideD hb
  clear HJ HD hD2 hb
  go_wp2_with fail
  go_loopw [20] (fun s wr => ∃ (K : Nat), K ≤ q ∧ s = .int .i64 (K : Int) ∧ Hid (ODraft wr d n (andK n m zc K r0)) ∧ Hid (Below w1.heap.size w1 wr)) (fun s _ => q - (intOf s).toNat)
  case atStart => exact ⟨0, by omega, rfl, hD3, hB3⟩
  case round =>
    obtain ⟨K, hK, rfl, hD, hB⟩ := hrel
    clear hD3 hB3
    by_cases ck : K < q
    · have k0 : (0 : Int) ≤ (K : Int) := by omega
      have k1 : (K : Int) < (q : Int) := by omega
      have c0 := kc _ _ hB.out (HP.out K ck)
      have HTK := hideD (HT.out d (zb K) _ (zc K) wr hD.out ((HY.out K ck).past hB.out))
      go_wp2_with fail
      refine HTK.out.mono ?_
      rintro e w3 ⟨rfl, hD4, hb4, -⟩
      have hD5 : Hid (ODraft w3 d n (andK n m zc (K + 1) r0)) := hD4
      have hB5 := hideD (hB.out.trans (hb4.mono hd))
      clear hD4 hb4 HTK hD hB c0
      go_wp2_with fail
      go_roundw
      case rel => exact ⟨K + 1, by omega, by go_num, hD5, hB5⟩
      case measure => simp [intOf]; omega
    · have eK : K = q := by omega
      subst eK
      have HZ := hideD (HO.out d _ wr hD.out (H32.out K) hB.out.size)
      clear hD
      go_wp2_with fail
      refine HZ.out.mono ?_
      rintro e w4 ⟨p, kk, rfl, ho, hb⟩
      go_wp2_with fail
      exact bodyPost_ret (v := .tuple #[.pointer p, .int .i64 kk]) (by simp [results, Tryd.results37, go_sem]) rfl ⟨ho.out, beyondD hB.out hb.out⟩
end Go.Proofs.YtfffcmelkdmjaaaDoor

/-
  What two zones have in common, in numbers: And and Constrain by all cells are one.
-/
namespace Go.Proofs.YtfffcmelkdmjaaaDoor
open Go.RowKit
set_option linter.unusedVariables false
set_option maxRecDepth 100000
theorem le_limM {r : Mat} {a b i j : Nat} {v x : Int} : x ≤ limM r a b v i j ↔ (x ≤ r i j ∧ (a = i → b = j → x ≤ v)) := by
  unfold limM upd
  by_cases e : i = a ∧ j = b
  · obtain ⟨rfl, rfl⟩ := e
    rw [if_pos ⟨rfl, rfl⟩]
    constructor
    · intro h; exact ⟨by omega, fun _ _ => by omega⟩
    · rintro ⟨h1, h2⟩; have := h2 rfl rfl; omega
  · rw [if_neg e]
    constructor
    · intro h; exact ⟨h, fun e1 e2 => absurd ⟨e1.symm, e2.symm⟩ e⟩
    · exact fun h => h.1
theorem le_tgtM {n : Nat} {c : Row} {r : Mat} {i j : Nat} {x : Int} : ∀ K, x ≤ tgtM n c K r i j ↔ (x ≤ r i j ∧ ∀ k, k < K → k / (n + 1) = i → k % (n + 1) = j → x ≤ c k)
  | 0 => ⟨fun h => ⟨h, fun k hk => by omega⟩, fun h => h.1⟩
  | K + 1 => by
    rw [show tgtM n c (K + 1) r = limM (tgtM n c K r) (K / (n + 1)) (K % (n + 1)) (c K) from rfl, le_limM, le_tgtM K]
    constructor
    · rintro ⟨⟨h1, h2⟩, h3⟩
      refine ⟨h1, fun k hk e1 e2 => ?_⟩
      by_cases q : k = K
      · subst q; exact h3 e1 e2
      · exact h2 k (by omega) e1 e2
    · rintro ⟨h1, h2⟩
      exact ⟨⟨h1, fun k hk => h2 k (by omega)⟩, h2 K (by omega)⟩
theorem le_limK {L : Lims} {r : Mat} {i j : Nat} {x : Int} : ∀ K, x ≤ limK L K r i j ↔ (x ≤ r i j ∧ ∀ k, k < K → (L.i k).toNat = i → (L.j k).toNat = j → x ≤ L.b k)
  | 0 => ⟨fun h => ⟨h, fun k hk => by omega⟩, fun h => h.1⟩
  | K + 1 => by
    rw [show limK L (K + 1) r = limM (limK L K r) (L.i K).toNat (L.j K).toNat (L.b K) from rfl, le_limM, le_limK K]
    constructor
    · rintro ⟨⟨h1, h2⟩, h3⟩
      refine ⟨h1, fun k hk e1 e2 => ?_⟩
      by_cases q : k = K
      · subst q; exact h3 e1 e2
      · exact h2 k (by omega) e1 e2
    · rintro ⟨h1, h2⟩
      exact ⟨⟨h1, fun k hk => h2 k (by omega)⟩, h2 K (by omega)⟩
theorem eq_of_le {a b : Int} (h : ∀ x, x ≤ a ↔ x ≤ b) : a = b := Int.le_antisymm ((h a).1 (Int.le_refl _)) ((h b).2 (Int.le_refl _))
theorem place_div {n i j : Nat} (hj : j ≤ n) : (i * (n + 1) + j) / (n + 1) = i := by rw [Nat.mul_comm, Nat.mul_add_div (by omega), Nat.div_eq_of_lt (by omega)]; rfl
theorem place_mod {n i j : Nat} (hj : j ≤ n) : (i * (n + 1) + j) % (n + 1) = j := by rw [Nat.mul_comm, Nat.mul_add_mod, Nat.mod_eq_of_lt (by omega)]
theorem tgt_at {n m : Nat} {c : Row} {r : Mat} (hm : m = (n + 1) * (n + 1)) {i j : Nat} (hi : i ≤ n) (hj : j ≤ n) : tgtM n c m r i j = min (r i j) (c (i * (n + 1) + j)) := by
  refine eq_of_le fun x => ?_
  rw [le_tgtM]
  constructor
  · rintro ⟨h1, h2⟩
    have := h2 (i * (n + 1) + j) (by rw [hm]; exact pos_lt hi hj) (place_div hj) (place_mod hj)
    omega
  · intro h
    refine ⟨by omega, fun k hk e1 e2 => ?_⟩
    have : i * (n + 1) + j = k := by rw [← e1, ← e2, Nat.mul_comm]; exact Nat.div_add_mod k (n + 1)
    rw [← this]
    omega
/-- All cells of a zone as limits, the last row first. -/
def LC (n : Nat) (d : Row) : Lims := ⟨(n + 1) * (n + 1), fun k => ((n - k / (n + 1) : Nat) : Int), fun k => ((k % (n + 1) : Nat) : Int), fun k => d ((n - k / (n + 1)) * (n + 1) + k % (n + 1))⟩
theorem lc_at {n m : Nat} {d : Row} {r : Mat} (hm : m = (n + 1) * (n + 1)) {i j : Nat} (hi : i ≤ n) (hj : j ≤ n) : limK (LC n d) m r i j = min (r i j) (d (i * (n + 1) + j)) := by
  refine eq_of_le fun x => ?_
  rw [le_limK]
  simp only [LC, Int.toNat_natCast]
  constructor
  · rintro ⟨h1, h2⟩
    have e1 := place_div (i := n - i) hj
    have e2 := place_mod (i := n - i) hj
    have := h2 ((n - i) * (n + 1) + j) (by rw [hm]; exact pos_lt (by omega) hj) (by rw [e1]; omega) e2
    rw [e1, e2, show n - (n - i) = i by omega] at this
    omega
  · intro h
    refine ⟨by omega, fun k hk e1 e2 => ?_⟩
    rw [e1, e2]
    omega
theorem lc_bnd (n : Nat) (d : Row) : ∀ K, bndA n (LC n d) K = true
  | 0 => rfl
  | K + 1 => by
    rw [show bndA n (LC n d) (K + 1) = (bndA n (LC n d) K && bndB n (LC n d) K) from rfl, lc_bnd n d K, Bool.true_and]
    show decide (0 ≤ ((n - K / (n + 1) : Nat) : Int) ∧ ((n - K / (n + 1) : Nat) : Int) ≤ (n : Int) ∧ 0 ≤ ((K % (n + 1) : Nat) : Int) ∧ ((K % (n + 1) : Nat) : Int) ≤ (n : Int)) = true
    refine decide_eq_true ?_
    have := Nat.mod_lt K (show 0 < n + 1 by omega)
    generalize K % (n + 1) = a at *
    generalize K / (n + 1) = b at *
    omega
theorem lc_rgt (n : Nat) (d : Row) (h : ∀ k, rightB (d k) = true) : ∀ K, rgtA (LC n d) K = true
  | 0 => rfl
  | K + 1 => by
    rw [show rgtA (LC n d) (K + 1) = (rgtA (LC n d) K && rightB (d ((n - K / (n + 1)) * (n + 1) + K % (n + 1)))) from rfl, lc_rgt n d h K, h]
    rfl
theorem rows_of {n m : Nat} {M : Mat} {l : Row} (hm : m = (n + 1) * (n + 1)) (h : ∀ i j, i ≤ n → j ≤ n → M i j = l (i * (n + 1) + j)) : rowsL n M (n + 1) = listOf l m := by
  rw [rowsL, ← hm]
  refine listOf_congr _ _ _ fun k hk => ?_
  rw [hm] at hk
  unfold flat
  rw [h _ _ (by have := Nat.div_lt_of_lt_mul hk; omega) (by have := Nat.mod_lt k (show 0 < n + 1 by omega); omega), Nat.mul_comm, Nat.div_add_mod]
theorem oR_at {n m : Nat} {c : Row} (hm : m = (n + 1) * (n + 1)) {i j : Nat} (hi : i ≤ n) (hj : j ≤ n) : oR n c m i j = c (i * (n + 1) + j) := by
  unfold oR
  rw [if_pos ⟨hj, by rw [hm]; exact pos_lt hi hj⟩]
theorem and_one {n m : Nat} {c d : Row} (hm : m = (n + 1) * (n + 1)) : rowsL n (andK n m (fun _ => d) 1 (oR n c m)) (n + 1) = listOf (minR c d) m := rows_of hm fun i j hi hj => by
  show tgtM n d m (oR n c m) i j = _
  rw [tgt_at hm hi hj, oR_at hm hi hj]
  rfl
theorem and_two {n m : Nat} {c d : Row} (hm : m = (n + 1) * (n + 1)) : rowsL n (andK n m (fun k => if k = 0 then c else d) 2 (oR n d m)) (n + 1) = listOf (minR c d) m := rows_of hm fun i j hi hj => by
  show tgtM n d m (tgtM n c m (oR n d m)) i j = _
  rw [tgt_at hm hi hj, tgt_at hm hi hj, oR_at hm hi hj]
  unfold minR
  omega
theorem con_all {n m : Nat} {c d : Row} (hm : m = (n + 1) * (n + 1)) : rowsL n (limK (LC n d) m (oR n c m)) (n + 1) = listOf (minR c d) m := rows_of hm fun i j hi hj => by
  rw [lc_at hm hi hj, oR_at hm hi hj]
  rfl
/-- All cells may be. -/
theorem zc_right {n m : Nat} {c : Row} (hm : m = (n + 1) * (n + 1)) (h : ZC n m c) (k : Nat) : rightB (c k) = true := by
  rcases h with rfl | ⟨p, hp⟩
  · rfl
  · rw [hp.cells]
    unfold cellsUpto
    split
    · exact narB_right _
    · rfl
theorem right_min {c d : Row} {k : Nat} (h1 : rightB (c k) = true) (h2 : rightB (d k) = true) : rightB (minR c d k) = true := by
  have e : minR c d k = c k ∨ minR c d k = d k := by unfold minR; omega
  rcases e with e | e
  · rw [e]; exact h1
  · rw [e]; exact h2
/-- A zone's cells are below what it was made of. -/
theorem zone_below {n m : Nat} {l : Row} {c3 : Row} (hn : n ≤ 8) (hm : m = (n + 1) * (n + 1)) (hl : ∀ k, rightB (l k) = true) (hz : zoneR n (drf n m (listOf l m)) = some c3) : c3 = (fun _ => 0) ∨ (c3 0 = 1 ∧ ∀ k, k < m → c3 k ≤ l k) := by
  have hr : RightL m (listOf l m) := fun k hk => by
    rw [listOf_get _ _ _ hk]
    have := hl k
    simpa only [rightB, decide_eq_true_eq] using this
  have hO := drf_ok n m _ hm hr
  have hz' := hz
  unfold zoneR at hz
  rw [← hm] at hz
  cases e : closeR n (drf n m (listOf l m)) with
  | none =>
    rw [e] at hz
    cases hz
    exact .inl rfl
  | some p =>
    rw [e] at hz
    have hz : (if narAll n p m = true then some (cellsUpto n p m) else none) = some c3 := hz
    split at hz
    · rename_i na
      cases hz
      have R := close_rounds hn hO.fin hO.diag e
      have F : FullC n m p (cellsUpto n p m) := ⟨R.cl hn, fun j hj => Int.le_trans (R.le 0 j (by omega) hj) (drf_low n m _ hm j hj), na, rfl⟩
      refine .inr ⟨F.zero hm, fun k hk => ?_⟩
      have hk' := hk
      rw [hm] at hk'
      have d1 : k / (n + 1) ≤ n := by have := Nat.div_lt_of_lt_mul hk'; omega
      have d2 : k % (n + 1) ≤ n := by have := Nat.mod_lt k (show 0 < n + 1 by omega); omega
      have ek : k / (n + 1) * (n + 1) + k % (n + 1) = k := by rw [Nat.mul_comm]; exact Nat.div_add_mod k (n + 1)
      have a := F.at hm d1 d2
      rw [ek] at a
      rw [a]
      have le := R.le _ _ d1 d2
      rw [drf_at n m _ hm _ _ d1 d2, ek, listOf_get _ _ _ hk] at le
      have hlk := hl k
      simp only [rightB, decide_eq_true_eq] at hlk
      have ho := opn_val
      rcases narOk_cases (F.ok hm d1 d2) with ⟨h1, h2⟩ | ⟨h1, h2, h3, h4⟩
      · rw [h2]
        unfold tgV at le
        split at le
        · omega
        · omega
      · rw [h2]
        unfold tgV at le
        split at le
        · omega
        · omega
    · cases hz
end Go.Proofs.YtfffcmelkdmjaaaDoor

/-
  The walk of the statement OpsCells.
-/
namespace Go.Proofs.YtfffcmelkdmjaaaDoor
open Go.RowKit
set_option linter.unusedVariables false
set_option maxRecDepth 100000
theorem ops_of {w' : World} {B n m : Nat} {e : Ending} {M : Mat} {l : Row} (hm : m = (n + 1) * (n + 1)) (h : OpsOut w' B n e M) (hr : rowsL n M (n + 1) = listOf l m) (hl : ∀ k, rightB (l k) = true) : ZoneOut w' B n e (zoneR n (drf n m (listOf l m))) := by
  have ha : allRight (listOf l m) m = true := allRight_of _ _ fun j hj => by rw [listOf_get _ _ _ hj]; exact hl j
  unfold OpsOut at h
  rw [hr, ← hm, ha] at h
  rcases h with ⟨h, -⟩ | ⟨-, h⟩
  · cases h
  · exact h
/-- What is told of two zones, whatever asks. -/
structure CellsSay (w : World) (b b2 N m : Nat) (c d : Row) (Z : Option Row) : Prop where
  one : ∀ wr, Below w.heap.size w wr → Calls Tryd.prog 37 #[.pointer (some ⟨b, 0, none⟩), .slice (some ⟨wr.heap.size, 0, none⟩) 1 1] (wr.alloc (.cells #[.pointer (some ⟨b2, 0, none⟩)] 23)) fun e w' => (∃ B, ZoneOut w' B N e Z) ∧ Below (wr.alloc (.cells #[.pointer (some ⟨b2, 0, none⟩)] 23)).heap.size (wr.alloc (.cells #[.pointer (some ⟨b2, 0, none⟩)] 23)) w'
  two : ∀ wr, Below w.heap.size w wr → Calls Tryd.prog 37 #[.pointer (some ⟨b2, 0, none⟩), .slice (some ⟨wr.heap.size, 0, none⟩) 2 2] (wr.alloc (.cells #[.pointer (some ⟨b, 0, none⟩), .pointer (some ⟨b2, 0, none⟩)] 23)) fun e w' => (∃ B, ZoneOut w' B N e Z) ∧ Below (wr.alloc (.cells #[.pointer (some ⟨b, 0, none⟩), .pointer (some ⟨b2, 0, none⟩)] 23)).heap.size (wr.alloc (.cells #[.pointer (some ⟨b, 0, none⟩), .pointer (some ⟨b2, 0, none⟩)] 23)) w'
  con : ∀ wr v, Below w.heap.size w wr → wr.ownsRow w.heap.size 83 3 v m (fl (LC N d) m) → Calls Tryd.prog 27 #[.pointer (some ⟨b, 0, none⟩), v] wr fun e w' => (∃ B, ZoneOut w' B N e Z) ∧ Below wr.heap.size wr w'
  eql : ∀ c3 wr p q, Z = some c3 → ZoneAt wr p N c3 → ZoneAt wr q N c3 → Calls Tryd.prog 49 #[.pointer (some ⟨p, 0, none⟩), .pointer (some ⟨q, 0, none⟩)] wr fun e w' => e = .returned (.bool true) ∧ Below wr.heap.size wr w'
  inc1 : ∀ c3 wr p, Z = some c3 → Below w.heap.size w wr → ZoneAt wr p N c3 → Calls Tryd.prog 50 #[.pointer (some ⟨b, 0, none⟩), .pointer (some ⟨p, 0, none⟩)] wr fun e w' => e = .returned (.bool true) ∧ Below wr.heap.size wr w'
  inc2 : ∀ c3 wr p, Z = some c3 → Below w.heap.size w wr → ZoneAt wr p N c3 → Calls Tryd.prog 50 #[.pointer (some ⟨b2, 0, none⟩), .pointer (some ⟨p, 0, none⟩)] wr fun e w' => e = .returned (.bool true) ∧ Below wr.heap.size wr w'
  emp : ∀ c3, Z = some c3 → ∃ t s : Bool, (t != s) = true ∧ (∀ wr p, ZoneAt wr p N c3 → Calls Tryd.prog 52 #[.pointer (some ⟨p, 0, none⟩)] wr fun e w' => e = .returned (.bool t) ∧ Below wr.heap.size wr w') ∧ (∀ wr, Below w.heap.size w wr → Calls Tryd.prog 53 #[.pointer (some ⟨b, 0, none⟩), .pointer (some ⟨b2, 0, none⟩)] wr fun e w' => e = .returned (.bool s) ∧ Below wr.heap.size wr w')
theorem cells_say {w : World} {b b2 N m : Nat} {c d : Row} (hN : N ≤ 8) (hm : m = (N + 1) * (N + 1)) (h1 : ZoneAt w b N c) (h2 : ZoneAt w b2 N d) (c1 : C32 c) (c2 : C32 d) (z1 : ZC N m c) (z2 : ZC N m d) : ∃ Z, CellsSay w b b2 N m c d Z := by
  have r1 := zc_right hm z1
  have r2 := zc_right hm z2
  have rm : ∀ k, rightB (minR c d k) = true := fun k => right_min (r1 k) (r2 k)
  have incl : ∀ {e c3 : Row} {b : Nat}, (∀ k, minR c d k ≤ e k) → zoneR N (drf N m (listOf (minR c d) m)) = some c3 → ZoneAt w b N e → ∀ wr p, Below w.heap.size w wr → ZoneAt wr p N c3 → Calls Tryd.prog 50 #[.pointer (some ⟨b, 0, none⟩), .pointer (some ⟨p, 0, none⟩)] wr fun e w' => e = .returned (.bool true) ∧ Below wr.heap.size wr w' := by
    intro e c3 b he hz hb wr p hB hp
    rcases zone_below hN hm rm hz with rfl | ⟨h0, hk⟩
    · exact includes_empty b p N e _ wr (hb.past hB) hp hN rfl
    · have H := includes_some b p N e c3 wr (hb.past hB) hp hN (by rw [h0]; rfl)
      rw [(nless_iff e c3 _).2 fun j hj => Int.le_trans (hk j (by rw [hm]; exact hj)) (he j)] at H
      exact H
  refine ⟨zoneR N (drf N m (listOf (minR c d) m)), ?_, ?_, ?_, ?_, ?_, ?_, ?_⟩
  · intro wr hB
    have B2 := beyondD hB (below_one wr (.cells #[.pointer (some ⟨b2, 0, none⟩)] 23))
    refine (and_main b N wr.heap.size 0 1 1 c (fun _ => b2) (fun _ => d) _ hN (h1.past B2) c1 (by omega) (fun k hk => ?_) (fun k hk => h2.past B2) (fun _ => c2)).mono fun e w' ⟨h, hb⟩ => ⟨⟨_, ops_of hm h (by rw [← hm]; exact and_one hm) rm⟩, hb⟩
    obtain rfl : k = 0 := by omega
    rw [World.cell?_alloc_at _ _ _ _ rfl]
    rfl
  · intro wr hB
    have B2 := beyondD hB (below_one wr (.cells #[.pointer (some ⟨b, 0, none⟩), .pointer (some ⟨b2, 0, none⟩)] 23))
    refine (and_main b2 N wr.heap.size 0 2 2 d (fun k => if k = 0 then b else b2) (fun k => if k = 0 then c else d) _ hN (h2.past B2) c2 (by omega) (fun k hk => ?_) (fun k hk => ?_) (fun k => ?_)).mono fun e w' ⟨h, hb⟩ => ⟨⟨_, ops_of hm h (by rw [← hm]; exact and_two hm) rm⟩, hb⟩
    · rw [World.cell?_alloc_at _ _ _ _ rfl]
      rcases (show k = 0 ∨ k = 1 by omega) with rfl | rfl <;> rfl
    · rcases (show k = 0 ∨ k = 1 by omega) with rfl | rfl
      · exact h1.past B2
      · exact h2.past B2
    · by_cases q : k = 0
      · rw [if_pos q]; exact c1
      · rw [if_neg q]; exact c2
  · intro wr v hB ho
    have mp : 0 < m := by rw [hm]; exact Nat.mul_pos (by omega) (by omega)
    obtain ⟨g, cap, rfl⟩ : ∃ g cap, v = .slice (some ⟨g, 0, none⟩) m cap := by
      obtain ⟨k, rfl⟩ : ∃ k, m = k + 1 := ⟨m - 1, by omega⟩
      exact own_form3 ho
    have lt := ho.lt g rfl
    have lq : (LC N d).q = m := hm.symm
    have lr : LimRow wr g 0 (LC N d) := cells_row fun j hj => by
      rw [lq] at hj
      rw [Nat.zero_add, ho.cellAt j (by omega), fl_get _ _ _ hj]
    have H := con_main b N g 0 cap c (LC N d) wr hN (h1.past hB) c1 lr lt.2 (fun k _ => c2 _) (by rw [lq, hm]; have := Nat.mul_le_mul (show N + 1 ≤ 9 by omega) (show N + 1 ≤ 9 by omega); omega)
    rw [lq] at H
    refine H.mono fun e w' ⟨h, hb⟩ => ⟨⟨_, ops_of hm (con_zone h (lc_bnd N d _) (lc_rgt N d r2 _)) (by rw [lq, ← hm]; exact con_all hm) rm⟩, hb⟩
  · intro c3 wr p q _ hp hq
    have H := equal_any p q N c3 c3 wr hp hq
    rw [show eqUpto c3 c3 81 = true by unfold eqUpto; simp] at H
    exact H.mono fun e w' ⟨h, k, hb⟩ => ⟨h, by rw [hb]; exact below_drewN (Below.refl _ _) k⟩
  · intro c3 wr p hz hB hp
    exact incl (fun k => by unfold minR; omega) hz h1 wr p hB hp
  · intro c3 wr p hz hB hp
    exact incl (fun k => by unfold minR; omega) hz h2 wr p hB hp
  · intro c3 hz
    refine ⟨decide (c3 0 < 1), !(c3 0 != 1), ?_, fun wr p hp => zempty_any p N c3 wr hN hp, fun wr hB => ?_⟩
    · rcases zone_below hN hm rm hz with rfl | ⟨h0, -⟩
      · rfl
      · rw [h0]; rfl
    · have H := meets_any b b2 N m c d wr (h1.past hB) (h2.past hB) hN hm c1 c2
      rw [tgAll_two N m c d _ hm (fun j => (c1 j).2) (fun j => (c2 j).2)] at H
      have e : (closeR N (tgAll N (listOf (minR c d) m) m (startR N (N + 1) 0))).isSome = !(c3 0 != 1) := by
        have hr : RightL m (listOf (minR c d) m) := fun k hk => by
          rw [listOf_get _ _ _ hk]
          have := rm k
          simpa only [rightB, decide_eq_true_eq] using this
        rw [meets_same N _ (fun i hi => drf_diag N m _ hm hr i hi)]
        show meetsOf (zoneR N (drf N m (listOf (minR c d) m))) = _
        rw [hz]
        rfl
      rw [e] at H
      exact H
end Go.Proofs.YtfffcmelkdmjaaaDoor
