/-
  The constants of extra: mayBe, counted, silent.
-/
import Derived.Test.YtohkbjkfpnhggaaZm
import Derived.Test.YtohkbjkfpnhggaaZi
import Derived.Laws.OwnMore
import Derived.Test.YtohkbjkfpnhggaaZk
import Derived.Laws.EntriesVeiled
namespace Go.Proofs.Ytohkbjkfpnhggaa
open Go.RowKit
set_option linter.unusedVariables false
set_option maxRecDepth 100000
def cstB (x : Int) : Bool := decide (-1 ≤ x ∧ x ≤ 1048576)
def cstA (l : List Int) : Nat → Bool
  | 0 => true
  | k + 1 => cstA l k && cstB (l.getD k 0)
theorem cstA_false {l : List Int} : ∀ {k : Nat} (m : Nat), k ≤ m → cstA l k = false → cstA l m = false := by
  intro k m h e
  induction m with
  | zero => obtain rfl : k = 0 := by omega
            exact e
  | succ m ih =>
    by_cases q : k = m + 1
    · subst q; exact e
    · simp [cstA, ih (by omega)]
theorem cstA_at {l : List Int} {m : Nat} (h : cstA l m = true) (k : Nat) (hk : k < m) : -1 ≤ l.getD k 0 ∧ l.getD k 0 ≤ 1048576 := by
  induction m with
  | zero => omega
  | succ m ih =>
    simp only [cstA, Bool.and_eq_true] at h
    by_cases q : k = m
    · subst q
      simpa [cstB] using h.2
    · exact ih h.1 (by omega)
/-- Why numbers can't be constants of n clocks. -/
def mayE (n : Nat) (l : List Int) : Int := if l.length = n then (if cstA l l.length = true then 0 else 13) else 6
theorem IntsAt.at {w : World} {ad : Option Addr} {q cap : Nat} {l : List Int} (h : IntsAt w (.slice ad q cap) l) (hl : l.length = q) (k : Nat) (hk : k < q) : ∃ cb off, ad = some ⟨cb, off, none⟩ ∧ w.cell? ⟨cb, off + k, none⟩ = some (.int .i64 (l.getD k 0)) := by
  rcases h with ⟨ad', c', e, e'⟩ | ⟨cb, off, cap', e, hcell⟩
  · subst e'; simp at hl; omega
  · injection e with e1 e2 e3
    exact ⟨cb, off, e1, hcell k (by omega)⟩
set_option maxHeartbeats 2000000 in
theorem maybe_any (n q cap : Nat) (ad : Option Addr) (l : List Int) (w : World) (hl : l.length = q) (hv : IntsAt w (.slice ad q cap) l) (hq : q ≤ 9223372036854775807) :
    Calls Try.prog 47 #[.slice ad q cap, .int .i64 n] w fun e w' => e = .returned (.int .i64 (mayE n l)) ∧ w' = w := by
  have HC : Hid (∀ k, k < q → ∃ cb off, ad = some ⟨cb, off, none⟩ ∧ w.cell? ⟨cb, off + k, none⟩ = some (.int .i64 (l.getD k 0))) := fun k hk => hv.at hl k hk
  have HE0 : Hid (¬ q = n → mayE n l = 6) := fun h => by rw [mayE, hl, if_neg h]
  have HEt : Hid (q = n → cstA l q = true → mayE n l = 0) := fun h h' => by rw [mayE, hl, if_pos h, if_pos h']
  have HEf : Hid (q = n → cstA l q = false → mayE n l = 13) := fun h h' => by rw [mayE, hl, if_pos h, if_neg (by rw [h']; decide)]
  clear hv hl
  by_cases e : q = n
  · subst e
    have HT := hideD (HEt.out rfl)
    have HF := hideD (HEf.out rfl)
    clear HE0 HEt HEf
    have q1 : (q : Int) ≤ 9223372036854775807 := by omega
    go_enter Try.func47, Try.ntmps47
    go_wp2_with fail
    go_loopw [13] (fun s wr => ∃ (K : Nat), K ≤ q ∧ s = .int .i64 (K : Int) ∧ Hid (cstA l K = true) ∧ wr = w) (fun s _ => q - (intOf s).toNat)
    case atStart => exact ⟨0, by omega, rfl, rfl, rfl⟩
    case round =>
      obtain ⟨K, hK, rfl, hA, rfl⟩ := hrel
      by_cases ck : K < q
      · have k0 : (0 : Int) ≤ (K : Int) := by omega
        have k1 : (K : Int) < (q : Int) := by omega
        obtain ⟨cb, off, rfl, c1⟩ := HC.out K ck
        have st : Hid (cstA l (K + 1) = cstB (l.getD K 0)) := by show _ = _; simp [cstA, hA.out]
        generalize l.getD K 0 = x at *
        by_cases x1 : x < -1
        · have st3 : Hid (cstA l q = false) := cstA_false (k := K + 1) q (by omega) (by rw [st.out]; simp [cstB]; omega)
          clear st
          go_wp2_with fail
          go_ret
          exact ⟨by rw [HF.out st3.out]; rfl, rfl⟩
        · by_cases x2 : 1048576 < x
          · have st3 : Hid (cstA l q = false) := cstA_false (k := K + 1) q (by omega) (by rw [st.out]; simp [cstB]; omega)
            clear st
            go_wp2_with fail
            go_ret
            exact ⟨by rw [HF.out st3.out]; rfl, rfl⟩
          · have st3 : Hid (cstA l (K + 1) = true) := by show _ = _; rw [st.out]; simp [cstB]; omega
            clear st
            go_wp2_with fail
            go_roundw
            case rel => exact ⟨K + 1, by omega, by go_num, st3, by trivial⟩
            case measure => simp [intOf]; omega
      · have eK : K = q := by omega
        subst eK
        go_wp2_with fail
        go_ret
        exact ⟨by rw [HT.out hA.out]; rfl, rfl⟩
  · have e' : ¬ ((q : Int) = (n : Int)) := by omega
    go_enter Try.func47, Try.ntmps47
    go_wp2_with fail
    go_ret
    exact ⟨by rw [HE0.out e]; rfl, rfl⟩
/-- The constants as cells are held against them, that of the number 0 first. -/
def cstL (l : List Int) (K : Nat) : List Int := 0 :: (l.take K).map (fun c => max c 0)
def cstN (l : List Int) (i : Nat) : Int := if i = 0 then 0 else max (l.getD (i - 1) 0) 0
theorem cstL_next (l : List Int) (K : Nat) (hK : K < l.length) : cstL l (K + 1) = cstL l K ++ [max (l.getD K 0) 0] := by
  unfold cstL
  have e : l.getD K 0 = l[K] := by simp [List.getD, hK]
  rw [List.take_add_one, List.map_append, List.getElem?_eq_getElem hK, e]
  rfl
theorem cstL_len (l : List Int) (K : Nat) (hK : K ≤ l.length) : (cstL l K).length = K + 1 := by simp [cstL]; omega
theorem cstL_get (l : List Int) (i : Nat) (hi : i < l.length + 1) : (cstL l l.length)[i]? = some (cstN l i) := by
  unfold cstL cstN
  cases i with
  | zero => rfl
  | succ i =>
    have : i < l.length := by omega
    simp [List.getD, this]
theorem info_int : (Try.prog.info? 3).map (fun i => (i.zero, i.size, i.bytes)) = some (some (.int .i64 0), 1, 8) := by kernel_rfl
set_option maxHeartbeats 4000000 in
theorem counted_any (q cap : Nat) (ad : Option Addr) (l : List Int) (w : World) (hl : l.length = q) (hv : IntsAt w (.slice ad q cap) l) (hq : q ≤ 1000) :
    Calls Try.prog 62 #[.slice ad q cap] w fun e w' => (∃ v, e = .returned v ∧ Hid (w'.ownsRow w.heap.size 3 1 v (q + 1) ((cstL l q).map (Value.int .i64)))) ∧ Below w.heap.size w w' := by
  have HC : Hid (∀ wr, Below w.heap.size w wr → ∀ k, k < q → ∃ cb off, ad = some ⟨cb, off, none⟩ ∧ wr.cell? ⟨cb, off + k, none⟩ = some (.int .i64 (l.getD k 0))) := fun wr hb k hk => (hv.past hb).at hl k hk
  have NX : Hid (∀ K, K < q → (cstL l (K + 1)).map (Value.int .i64) = (cstL l K).map (Value.int .i64) ++ [.int .i64 (max (l.getD K 0) 0)]) := fun K hK => by
    rw [cstL_next l K (by omega), List.map_append]; rfl
  obtain ⟨i0, hi0, hz0, hz1, hz2⟩ := info_parts info_int
  have q1 : (q : Int) ≤ 9223372036854775807 := by omega
  clear hv hl
  go_enter Try.func62, Try.ntmps62
  go_wp2_with fail
  have own0 : Hid ((w.alloc (.cells #[.int .i64 0] 3)).ownsRow w.heap.size 3 1 (.slice (some ⟨w.heap.size, 0, none⟩) 1 1) (0 + 1) ((cstL l 0).map (Value.int .i64))) := World.ownsRow_lit w #[.int .i64 0] 1 (Nat.le_refl _) (by decide) rfl
  have B0 := hideD (below_one w (.cells #[.int .i64 0] 3))
  generalize w.alloc (.cells #[.int .i64 0] 3) = w0 at *
  go_loopw [3, 9] (fun u s wr => ∃ (K : Nat), K ≤ q ∧ s = .int .i64 (K : Int) ∧ Hid (wr.ownsRow w.heap.size 3 1 u (K + 1) ((cstL l K).map (Value.int .i64))) ∧ Hid (Below w.heap.size w wr)) (fun _ s _ => q - (intOf s).toNat)
  case atStart => exact ⟨0, by omega, rfl, own0, B0⟩
  case round =>
    obtain ⟨K, hK, rfl, hown, hB⟩ := hrel
    clear own0 B0
    by_cases ck : K < q
    · have k0 : (0 : Int) ≤ (K : Int) := by omega
      have k1 : (K : Int) < (q : Int) := by omega
      obtain ⟨cb, off, rfl, c1⟩ := HC.out wr hB.out K ck
      have nx := hideD (NX.out K ck)
      generalize l.getD K 0 = x at *
      have hsz := hB.out.size
      have HN : Hid (∀ j u, [Value.int .i64 (max x 0)][j]? = some u → (wr.alloc (.cells #[.int .i64 (max x 0)] 3)).cell? ((⟨wr.heap.size, 0, none⟩ : Addr).add j) = some u) := by
        intro j u hj
        match j, hj with
        | 0, hj => simp at hj; subst hj; simp [Addr.add]
      go_wp2_with (at_builtin; first | (refine wpList_append_own _ rfl _ _ 23 rfl w.heap.size 3 i0 (.int .i64 0) 1 8 Try.underlying23 hi0 hz0 hz1 hz2 rfl (by decide) _ (K + 1) ((cstL l K).map (Value.int .i64)) rfl (hown.out.alloc _) ⟨wr.heap.size, 0, none⟩ 1 1 [.int .i64 (max x 0)] rfl rfl HN.out (fun u hu => by simp at hu; subst hu; rfl) (by unfold maxLen; omega) (by omega) (by simp; omega) ?_; intro v' w1 hown' hgrow hnil))
      have hb1 : Below w.heap.size w w1 := (hB.out.alloc hsz _).grown hgrow (by simp; omega) (by intro q hq; exact (hown.out.lt q hq).1)
      have B5 := hideD hb1
      have own5 : Hid (w1.ownsRow w.heap.size 3 1 v' (K + 1 + 1) ((cstL l (K + 1)).map (Value.int .i64))) := by
        show w1.ownsRow _ _ _ _ _ _
        rw [nx.out]
        exact hown'
      clear hown' hgrow hnil hb1 HN hown hB
      exact ⟨⟨K + 1, by omega, by go_num, own5, B5⟩, by simp [intOf]; omega⟩
    · have eK : K = q := by omega
      subst eK
      go_wp2_with fail
      go_ret
      exact ⟨⟨_, rfl, hown⟩, hB.out⟩
/-- The clocks that are held against nothing. -/
def silL (lo up : List Int) : Nat → List Int
  | 0 => []
  | K + 1 => if lo.getD K 0 = -1 ∧ up.getD K 0 = -1 then silL lo up K ++ [(K : Int) + 1] else silL lo up K
theorem silL_len (lo up : List Int) : ∀ K, (silL lo up K).length ≤ K
  | 0 => Nat.le_refl _
  | K + 1 => by
    have := silL_len lo up K
    unfold silL
    split
    · rw [List.length_append]; simp; omega
    · omega
theorem silL_mem {lo up : List Int} {x : Int} : ∀ K, x ∈ silL lo up K ↔ ∃ k, k < K ∧ x = (k : Int) + 1 ∧ lo.getD k 0 = -1 ∧ up.getD k 0 = -1
  | 0 => ⟨fun h => (by cases h), fun ⟨k, h, _⟩ => (by omega)⟩
  | K + 1 => by
    have ih := silL_mem (lo := lo) (up := up) (x := x) K
    unfold silL
    split
    · rename_i c
      rw [List.mem_append, ih]
      constructor
      · rintro (⟨k, h1, h2⟩ | h)
        · exact ⟨k, by omega, h2⟩
        · exact ⟨K, by omega, by simpa using h, c⟩
      · rintro ⟨k, h1, h2, h3⟩
        by_cases e : k = K
        · subst e; exact .inr (by simpa using h2)
        · exact .inl ⟨k, by omega, h2, h3⟩
    · rename_i c
      rw [ih]
      constructor
      · rintro ⟨k, h1, h2⟩; exact ⟨k, by omega, h2⟩
      · rintro ⟨k, h1, h2, h3⟩
        by_cases e : k = K
        · subst e; exact absurd h3 c
        · exact ⟨k, by omega, h2, h3⟩
set_option maxHeartbeats 4000000 in
theorem silent_any (q cap cap' : Nat) (ad ad' : Option Addr) (lo up : List Int) (w : World) (hl : lo.length = q) (hu : up.length = q) (hv : IntsAt w (.slice ad q cap) lo) (hv' : IntsAt w (.slice ad' q cap') up) (hq : q ≤ 1000) :
    Calls Try.prog 66 #[.slice ad q cap, .slice ad' q cap'] w fun e w' => (∃ v, e = .returned v ∧ Hid (w'.ownsRow w.heap.size 3 1 v (silL lo up q).length ((silL lo up q).map (Value.int .i64)))) ∧ Below w.heap.size w w' := by
  have HC : Hid (∀ wr, Below w.heap.size w wr → ∀ k, k < q → ∃ cb off, ad = some ⟨cb, off, none⟩ ∧ wr.cell? ⟨cb, off + k, none⟩ = some (.int .i64 (lo.getD k 0))) := fun wr hb k hk => (hv.past hb).at hl k hk
  have HC' : Hid (∀ wr, Below w.heap.size w wr → ∀ k, k < q → ∃ cb off, ad' = some ⟨cb, off, none⟩ ∧ wr.cell? ⟨cb, off + k, none⟩ = some (.int .i64 (up.getD k 0))) := fun wr hb k hk => (hv'.past hb).at hu k hk
  have NX : Hid (∀ K, silL lo up (K + 1) = if lo.getD K 0 = -1 ∧ up.getD K 0 = -1 then silL lo up K ++ [(K : Int) + 1] else silL lo up K) := fun K => rfl
  have LN := hideD (silL_len lo up)
  obtain ⟨i0, hi0, hz0, hz1, hz2⟩ := info_parts info_int
  have q1 : (q : Int) ≤ 9223372036854775807 := by omega
  clear hv hl hv' hu
  go_enter Try.func66, Try.ntmps66
  go_wp2_with fail
  go_loopw [5, 9] (fun u s wr => ∃ (K : Nat), K ≤ q ∧ s = .int .i64 (K : Int) ∧ Hid (wr.ownsRow w.heap.size 3 1 u (silL lo up K).length ((silL lo up K).map (Value.int .i64))) ∧ Hid (Below w.heap.size w wr)) (fun _ s _ => q - (intOf s).toNat)
  case atStart => exact ⟨0, by omega, rfl, World.ownsRow_nil _ _ _ _, Below.refl _ _⟩
  case round =>
    obtain ⟨K, hK, rfl, hown, hB⟩ := hrel
    by_cases ck : K < q
    · have k0 : (0 : Int) ≤ (K : Int) := by omega
      have k1 : (K : Int) < (q : Int) := by omega
      obtain ⟨cb, off, rfl, c1⟩ := HC.out wr hB.out K ck
      obtain ⟨cb', off', rfl, c2⟩ := HC'.out wr hB.out K ck
      have nx := hideD (NX.out K)
      have ln := LN.out K
      have hsz := hB.out.size
      generalize lo.getD K 0 = x at *
      generalize up.getD K 0 = y at *
      by_cases cx : x = -1
      · by_cases cy : y = -1
        · rw [if_pos ⟨cx, cy⟩] at nx
          have HN : Hid (∀ j u, [Value.int .i64 ((K : Int) + 1)][j]? = some u → (wr.alloc (.cells #[.int .i64 ((K : Int) + 1)] 3)).cell? ((⟨wr.heap.size, 0, none⟩ : Addr).add j) = some u) := by
            intro j u hj
            match j, hj with
            | 0, hj => simp at hj; subst hj; simp [Addr.add]
          have ew : wrap64 ((K : Int) + 1) = (K : Int) + 1 := by unfold wrap64; omega
          subst cx cy
          generalize hS : silL lo up K = s at *
          have HS := hideD hS
          clear hS
          go_wp2_with (at_builtin; first | (refine wpList_append_own _ rfl _ _ 23 rfl w.heap.size 3 i0 (.int .i64 0) 1 8 Try.underlying23 hi0 hz0 hz1 hz2 rfl (by decide) _ s.length (s.map (Value.int .i64)) rfl (hown.out.alloc _) ⟨wr.heap.size, 0, none⟩ 1 1 [.int .i64 ((K : Int) + 1)] rfl rfl HN.out (fun u hu => by simp at hu; subst hu; rfl) (by unfold maxLen; omega) (by omega) (by simp; omega) ?_; intro v' w1 hown' hgrow hnil))
          have hb1 : Below w.heap.size w w1 := (hB.out.alloc hsz _).grown hgrow (by simp; omega) (by intro q hq; exact (hown.out.lt q hq).1)
          have B5 := hideD hb1
          have own5 : Hid (w1.ownsRow w.heap.size 3 1 v' (silL lo up (K + 1)).length ((silL lo up (K + 1)).map (Value.int .i64))) := by
            show w1.ownsRow _ _ _ _ _ _
            rw [nx.out, List.map_append, List.length_append]
            exact hown'
          clear hown' hgrow hnil hb1 HN hown hB
          exact ⟨⟨K + 1, by omega, by go_num, own5, B5⟩, by simp [intOf]; omega⟩
        · rw [if_neg (by omega)] at nx
          subst cx
          rw [← nx.out] at hown
          clear ln
          go_wp2_with fail
          go_roundw
          case rel => exact ⟨K + 1, by omega, by go_num, hown, hB⟩
          case measure => simp [intOf]; omega
      · rw [if_neg (by omega)] at nx
        rw [← nx.out] at hown
        clear ln
        go_wp2_with fail
        go_roundw
        case rel => exact ⟨K + 1, by omega, by go_num, hown, hB⟩
        case measure => simp [intOf]; omega
    · have eK : K = q := by omega
      subst eK
      go_wp2_with fail
      go_ret
      exact ⟨⟨_, rfl, hown⟩, hB.out⟩
end Go.Proofs.Ytohkbjkfpnhggaa

/-
  The widening of extra: by (its closure), of.
-/
namespace Go.Proofs.Ytohkbjkfpnhggaa
open Go.RowKit
set_option linter.unusedVariables false
set_option maxRecDepth 100000
/-- A cell, widened. -/
def wdV (i : Nat) (x y b : Int) : Int := if ¬ i = 0 ∧ 2 * x + 1 < b then 2147483647 else if b < -(2 * y) then -(2 * y) else b
theorem wcell_any (bl bh gl gh cl ch n i j : Nat) (b x y : Int) (w : World) (hn : n ≤ 8) (hi : i ≤ n) (hj : j ≤ n) (x0 : 0 ≤ x) (x1 : x ≤ 1048576) (y0 : 0 ≤ y) (y1 : y ≤ 1048576)
    (c1 : w.cell? ⟨bl, 0, none⟩ = some (.slice (some ⟨gl, 0, none⟩) (n + 1) cl)) (c2 : w.cell? ⟨bh, 0, none⟩ = some (.slice (some ⟨gh, 0, none⟩) (n + 1) ch)) (c3 : w.cell? ⟨gl, i, none⟩ = some (.int .i64 x)) (c4 : w.cell? ⟨gh, j, none⟩ = some (.int .i64 y)) :
    Calls Try.prog 63 #[.int .i64 i, .int .i64 j, .int .i32 b, .pointer (some ⟨bl, 0, none⟩), .pointer (some ⟨bh, 0, none⟩)] w fun e w' => e = .returned (.int .i32 (wdV i x y b)) ∧ w' = w := by
  have H1 : Hid (∀ w, Calls Try.prog 64 #[.int .i64 x] w fun e w' => e = .returned (.tuple #[.int .i32 (2 * x + 1), .int .i64 0]) ∧ w' = w) := fun w => by
    have := atMost_any x w
    rwa [show ofB x true = 2 * x + 1 by unfold ofB; rw [if_neg (by omega), if_pos rfl], show ofE x = 0 by unfold ofE; rw [if_neg (by omega)]] at this
  have H2 : Hid (∀ w, Calls Try.prog 65 #[.int .i64 (-y)] w fun e w' => e = .returned (.tuple #[.int .i32 (-(2 * y)), .int .i64 0]) ∧ w' = w) := fun w => by
    have := lessThan_any (-y) w
    rwa [show ofB (-y) false = -(2 * y) by unfold ofB; rw [if_neg (by omega), if_neg (by decide)]; omega, show ofE (-y) = 0 by unfold ofE; rw [if_neg (by omega)]] at this
  have HW : Hid (wdV i x y b = if ¬ i = 0 ∧ 2 * x + 1 < b then 2147483647 else if b < -(2 * y) then -(2 * y) else b) := rfl
  have i0 : (0 : Int) ≤ (i : Int) := by omega
  have i1 : (i : Int) < ((n + 1 : Nat) : Int) := by omega
  have j0 : (0 : Int) ≤ (j : Int) := by omega
  have j1 : (j : Int) < ((n + 1 : Nat) : Int) := by omega
  have ng : wrap64 (-y) = -y := by unfold wrap64; omega
  generalize hN : n + 1 = m at *
  clear hN
  go_enter Try.func63, Try.ntmps63
  go_wp2_with fail
  refine (H1.out _).mono ?_
  rintro e w' ⟨rfl, rfl⟩
  go_wp2_with fail
  refine (H2.out _).mono ?_
  rintro e w' ⟨rfl, rfl⟩
  clear c1 c2 c3 c4 H1 H2 ng
  generalize hX : 2 * x + 1 = X at *
  generalize hY : -(2 * y) = Y at *
  clear hX hY x0 x1 y0 y1
  by_cases ci : i = 0
  · have ci' : (i : Int) = 0 := by omega
    rw [if_neg (by omega)] at HW
    by_cases cy : b < Y
    · rw [if_pos cy] at HW
      go_wp2_with fail
      go_ret
      exact ⟨by rw [HW.out]; rfl, rfl⟩
    · rw [if_neg cy] at HW
      go_wp2_with fail
      go_ret
      exact ⟨by rw [HW.out]; rfl, rfl⟩
  · have ci' : ¬ (i : Int) = 0 := by omega
    by_cases cx : X < b
    · rw [if_pos ⟨ci, cx⟩] at HW
      go_wp2_with fail
      go_ret
      exact ⟨by rw [HW.out]; rfl, rfl⟩
    · rw [if_neg (by omega)] at HW
      by_cases cy : b < Y
      · rw [if_pos cy] at HW
        go_wp2_with fail
        go_ret
        exact ⟨by rw [HW.out]; rfl, rfl⟩
      · rw [if_neg cy] at HW
        go_wp2_with fail
        go_ret
        exact ⟨by rw [HW.out]; rfl, rfl⟩
/-- What the closure has: both rows of constants. -/
def ByAt (w : World) (bl bh n : Nat) (lo up : List Int) : Prop := ∃ gl cl gh ch, w.cell? ⟨bl, 0, none⟩ = some (.slice (some ⟨gl, 0, none⟩) (n + 1) cl) ∧ w.cell? ⟨bh, 0, none⟩ = some (.slice (some ⟨gh, 0, none⟩) (n + 1) ch) ∧ ∀ i, i ≤ n → w.cell? ⟨gl, i, none⟩ = some (.int .i64 (cstN lo i)) ∧ w.cell? ⟨gh, i, none⟩ = some (.int .i64 (cstN up i))
theorem ByAt.past {w w' : World} {bl bh n : Nat} {lo up : List Int} (h : ByAt w bl bh n lo up) (hb : Below w.heap.size w w') : ByAt w' bl bh n lo up := by
  obtain ⟨gl, cl, gh, ch, h1, h2, h3⟩ := h
  exact ⟨gl, cl, gh, ch, kc _ _ hb h1, kc _ _ hb h2, fun i hi => ⟨kc _ _ hb (h3 i hi).1, kc _ _ hb (h3 i hi).2⟩⟩
def byF (bl bh : Nat) : Value := .func (.func 63) #[] #[.pointer (some ⟨bl, 0, none⟩), .pointer (some ⟨bh, 0, none⟩)]
theorem own_ints {w : World} {base : Nat} {v : Value} {l : List Int} (h : w.ownsRow base 3 1 v l.length (l.map (Value.int .i64))) : ∃ a k c, v = .slice a k c ∧ IntsAt w v l ∧ ∀ g off sp, a = some ⟨g, off, sp⟩ → base ≤ g := by
  rcases h.2 with ⟨rfl, h0⟩ | ⟨g, cap, cur, rfl, hg, h2, h3, h4, h5, h6⟩
  · exact ⟨none, 0, 0, rfl, .inl ⟨_, _, rfl, List.length_eq_zero_iff.1 h0⟩, fun g off sp e => by cases e⟩
  · refine ⟨_, _, _, rfl, .inr ⟨g, 0, cap, rfl, fun j hj => ?_⟩, fun g' off sp e => ?_⟩
    · rw [Nat.zero_add, h.cellAt j (by omega)]
      simp [List.getD, hj]
    · cases e; exact hg
theorem keep_ne {w : World} {p q : Addr} {u v x : Value} (hp : w.cell? p = some u) (hq : w.cell? q = some v) (h : ¬ u = v) : (w.setCell p x).cell? q = some v := by
  rw [World.cell?_setCell_other _ _ _ _ (by intro e; subst e; rw [hp] at hq; injection hq with hq; exact h hq)]
  exact hq
/-- A value that is neither a number nor a row. -/
def Odd (u : Value) : Prop := (∀ x, ¬ u = .int .i64 x) ∧ ∀ a k c, ¬ u = .slice (some a) k c
theorem IntsAt.set {w : World} {v : Value} {l : List Int} {p : Addr} {x u : Value} (h : IntsAt w v l) (hp : w.cell? p = some u) (ho : Odd u) : IntsAt (w.setCell p x) v l := by
  rcases h with h | ⟨b, off, cap, rfl, hc⟩
  · exact .inl h
  · exact .inr ⟨b, off, cap, rfl, fun j hj => keep_ne hp (hc j hj) (ho.1 _)⟩
theorem ByAt.set {w : World} {bl bh n : Nat} {lo up : List Int} {p : Addr} {x u : Value} (h : ByAt w bl bh n lo up) (hp : w.cell? p = some u) (ho : Odd u) : ByAt (w.setCell p x) bl bh n lo up := by
  obtain ⟨gl, cl, gh, ch, h1, h2, h3⟩ := h
  exact ⟨gl, cl, gh, ch, keep_ne hp h1 (ho.2 _ _ _), keep_ne hp h2 (ho.2 _ _ _), fun i hi => ⟨keep_ne hp (h3 i hi).1 (ho.1 _), keep_ne hp (h3 i hi).2 (ho.1 _)⟩⟩
theorem odd1 : Odd (.slice none 0 0) := ⟨fun x h => (by cases h), fun a k c h => (by cases h)⟩
theorem odd2 : Odd .nilFunc := ⟨fun x h => (by cases h), fun a k c h => (by cases h)⟩
set_option maxHeartbeats 4000000 in
theorem by_any (n cap cap' : Nat) (ad ad' : Option Addr) (lo up : List Int) (w : World) (hn : n ≤ 8) (hl : lo.length = n) (hu : up.length = n) (hv : IntsAt w (.slice ad n cap) lo) (hv' : IntsAt w (.slice ad' n cap') up) :
    Calls Try.prog 48 #[.slice ad n cap, .slice ad' n cap'] w fun e w' => (∃ v bl bh, e = .returned (.agg #[v, byF bl bh]) ∧ Hid (IntsAt w' v (silL lo up n)) ∧ Hid (ByAt w' bl bh n lo up)) ∧ Below w.heap.size w w' := by
  have HC1 : Hid (∀ w', Below w.heap.size w w' → _) := fun w' hb => counted_any n cap ad lo w' hl (hv.past hb) (by omega)
  have HC2 : Hid (∀ w', Below w.heap.size w w' → _) := fun w' hb => counted_any n cap' ad' up w' hu (hv'.past hb) (by omega)
  have HS : Hid (∀ w', Below w.heap.size w w' → _) := fun w' hb => silent_any n cap cap' ad ad' lo up w' hl hu (hv.past hb) (hv'.past hb) (by omega)
  go_enter Try.func48, Try.ntmps48
  go_wp2_with fail
  have B0 := hideD (below_one w (.cells #[.slice none 0 0, .nilFunc] 113))
  have HC1' := hideD (HC1.out _ B0.out)
  have L0 : w.heap.size < (w.alloc (.cells #[.slice none 0 0, .nilFunc] 113)).heap.size := by simp
  have K0 : (w.alloc (.cells #[.slice none 0 0, .nilFunc] 113)).cell? ⟨w.heap.size, 0, none⟩ = some (.slice none 0 0) := by simp [go_sem]
  have K1 : (w.alloc (.cells #[.slice none 0 0, .nilFunc] 113)).cell? ⟨w.heap.size, 1, none⟩ = some .nilFunc := by simp [go_sem]
  have Z0 : (w.alloc (.cells #[.slice none 0 0, .nilFunc] 113)).frozen? ⟨w.heap.size, 0, none⟩ = false := by simp [go_sem]
  have Z1 : (w.alloc (.cells #[.slice none 0 0, .nilFunc] 113)).frozen? ⟨w.heap.size, 1, none⟩ = false := by simp [go_sem]
  generalize w.alloc (.cells #[.slice none 0 0, .nilFunc] 113) = w0 at *
  refine HC1'.out.mono ?_
  rintro e w1 ⟨⟨v1, rfl, own1⟩, hb1⟩
  have k0 := kc _ _ hb1 K0
  have k1 := kc _ _ hb1 K1
  have z0 := kf _ _ hb1 K0 Z0
  have z1 := kf _ _ hb1 K1 Z1
  have B1 := hideD (beyondD B0.out hb1)
  have HC2' := hideD (HC2.out _ B1.out)
  clear K0 K1 Z0 Z1
  go_wp2_with fail
  refine HC2'.out.mono ?_
  rintro e w2 ⟨⟨v2, rfl, own2⟩, hb2⟩
  have B2 := hideD (beyondD B1.out hb2)
  obtain ⟨gl, cl, rfl⟩ := own_form own1.out
  obtain ⟨gh, ch, rfl⟩ := own_form own2.out
  have R1 : Hid (∀ i, i ≤ n → w2.cell? ⟨gl, i, none⟩ = some (.int .i64 (cstN lo i)) ∧ w2.cell? ⟨gh, i, none⟩ = some (.int .i64 (cstN up i))) := fun i hi => by
    have e1 := own1.out.cellAt i (by omega)
    have e2 := own2.out.cellAt i (by omega)
    rw [List.getElem?_map, ← hl, cstL_get lo i (by omega)] at e1
    rw [List.getElem?_map, ← hu, cstL_get up i (by omega)] at e2
    exact ⟨kc _ _ hb2 e1, e2⟩
  have m0 := kc _ _ hb2 k0
  have m1 := kc _ _ hb2 k1
  have y0 := kf _ _ hb2 k0 z0
  have y1 := kf _ _ hb2 k1 z1
  clear k0 k1 z0 z1 own1 own2 HC1 HC1' HC2 HC2' hb1 hb2 B1 L0
  have N1 : ((n + 1 : Nat) : Int) = (n : Int) + 1 := by omega
  go_wp2_with fail
  have bb : Below w2.heap.size w2 ((w2.alloc (.cells #[.slice (some ⟨gl, 0, none⟩) (n + 1) cl] 23)).alloc (.cells #[.slice (some ⟨gh, 0, none⟩) (n + 1) ch] 23)) := ((Below.refl _ _).alloc (Nat.le_refl _) _).alloc (by simp) _
  have BY : Hid (ByAt ((w2.alloc (.cells #[.slice (some ⟨gl, 0, none⟩) (n + 1) cl] 23)).alloc (.cells #[.slice (some ⟨gh, 0, none⟩) (n + 1) ch] 23)) w2.heap.size (w2.heap.size + 1) n lo up) := by
    refine ⟨gl, cl, gh, ch, by simp [go_sem], by simp [go_sem], fun i hi => ⟨kc _ _ bb (R1.out i hi).1, kc _ _ bb (R1.out i hi).2⟩⟩
  have B3 := hideD (beyondD B2.out bb)
  have n0 := kc _ _ bb m0
  have n1 := kc _ _ bb m1
  have x0 := kf _ _ bb m0 y0
  have x1 := kf _ _ bb m1 y1
  have HS' := hideD (HS.out _ B3.out)
  clear bb m0 m1 y0 y1 R1 B2 HS
  generalize (w2.alloc (.cells #[.slice (some ⟨gl, 0, none⟩) (n + 1) cl] 23)).alloc (.cells #[.slice (some ⟨gh, 0, none⟩) (n + 1) ch] 23) = w3 at *
  generalize w2.heap.size = bl at *
  refine HS'.out.mono ?_
  rintro e w4 ⟨⟨v, rfl, own⟩, hb4⟩
  have BY4 := hideD (BY.out.past hb4)
  have B4 := hideD (beyondD B3.out hb4)
  have m0 := kc _ _ hb4 n0
  have m1 := kc _ _ hb4 n1
  have y0 := kf _ _ hb4 n0 x0
  have y1 := kf _ _ hb4 n1 x1
  obtain ⟨a, k, c, rfl, IV, O4⟩ := own_ints own.out
  have lb : Hid (w.heap.size < w3.heap.size) := World.block_lt_of_cell? _ _ n0
  have m1' : (w4.setCell ⟨w.heap.size, 0, none⟩ (.slice a k c)).cell? ⟨w.heap.size, 1, none⟩ = some .nilFunc := by rw [World.cell?_setCell_other _ _ _ _ (by intro e; injection e; omega)]; exact m1
  have y1' : (w4.setCell ⟨w.heap.size, 0, none⟩ (.slice a k c)).frozen? ⟨w.heap.size, 1, none⟩ = false := by rw [World.frozen?_setCell]; exact y1
  have I5 := hideD ((IV.set (x := .slice a k c) m0 odd1).set (x := byF bl (bl + 1)) m1' odd2)
  have BY5 := hideD ((BY4.out.set (x := .slice a k c) m0 odd1).set (x := byF bl (bl + 1)) m1' odd2)
  have B5 := hideD ((B4.out.setCell (p := ⟨w.heap.size, 0, none⟩) (Nat.le_refl _) (.slice a k c)).setCell (p := ⟨w.heap.size, 1, none⟩) (Nat.le_refl _) (byF bl (bl + 1)))
  have p1 : ((w4.setCell ⟨w.heap.size, 0, none⟩ (.slice a k c)).setCell ⟨w.heap.size, 1, none⟩ (byF bl (bl + 1))).cell? ⟨w.heap.size, 1, none⟩ = some (byF bl (bl + 1)) := World.cell?_setCell_same _ _ _ m1'
  have p0 : ((w4.setCell ⟨w.heap.size, 0, none⟩ (.slice a k c)).setCell ⟨w.heap.size, 1, none⟩ (byF bl (bl + 1))).cell? ⟨w.heap.size, 0, none⟩ = some (.slice a k c) := by
    rw [World.cell?_setCell_other _ _ _ _ (by intro e; injection e; omega)]
    exact World.cell?_setCell_same _ _ _ m0
  have P0 := hideD p0
  have P1 := hideD p1
  clear n0 n1 x0 x1 BY B3 HS' hb4 p0 p1 IV O4 own
  go_wp2_with fail
  have p0 := P0.out
  have p1 := P1.out
  unfold byF at p0 p1
  exact bodyPost_ret (v := .agg #[.slice a k c, byF bl (bl + 1)]) (by simp [results, Try.results48, go_sem, byF, p0, p1]) rfl ⟨⟨_, _, _, rfl, I5, BY5⟩, B5.out⟩
end Go.Proofs.Ytohkbjkfpnhggaa
