/-
  The constants of extra: mayBe, counted, silent.
-/
import Derived.Test.YtfffcmelkdmjaaaDoorZk
import Derived.Test.YtfffcmelkdmjaaaDoorZi
import Derived.Laws.OwnMore
namespace Go.Proofs.YtfffcmelkdmjaaaDoor
open Go.RowKit
set_option linter.unusedVariables false
set_option maxRecDepth 100000
def cstB (x : Int) : Bool := decide (-1 ≤ x ∧ x ≤ 1048576)
def cstA (l : List Int) : Nat → Bool
  | 0 => true
  | k + 1 => cstA l k && cstB (l.getD k 0)
theorem cstA_false {l : List Int} : ∀ {k : Nat} (m : Nat), k ≤ m → cstA l k = false → cstA l m = false := by
  intro k m h e
  induction m with
  | zero => obtain rfl : k = 0 := by omega
            exact e
  | succ m ih =>
    by_cases q : k = m + 1
    · subst q; exact e
    · simp [cstA, ih (by omega)]
theorem cstA_at {l : List Int} {m : Nat} (h : cstA l m = true) (k : Nat) (hk : k < m) : -1 ≤ l.getD k 0 ∧ l.getD k 0 ≤ 1048576 := by
  induction m with
  | zero => omega
  | succ m ih =>
    simp only [cstA, Bool.and_eq_true] at h
    by_cases q : k = m
    · subst q
      simpa [cstB] using h.2
    · exact ih h.1 (by omega)
/-- Why numbers can't be constants of n clocks. -/
def mayE (n : Nat) (l : List Int) : Int := if l.length = n then (if cstA l l.length = true then 0 else 13) else 6
theorem IntsAt.at {w : World} {ad : Option Addr} {q cap : Nat} {l : List Int} (h : IntsAt w (.slice ad q cap) l) (hl : l.length = q) (k : Nat) (hk : k < q) : ∃ cb off, ad = some ⟨cb, off, none⟩ ∧ w.cell? ⟨cb, off + k, none⟩ = some (.int .i64 (l.getD k 0)) := by
  rcases h with ⟨ad', c', e, e'⟩ | ⟨cb, off, cap', e, hcell⟩
  · subst e'; simp at hl; omega
  · injection e with e1 e2 e3
    exact ⟨cb, off, e1, hcell k (by omega)⟩
set_option maxHeartbeats 2000000 in
theorem maybe_any (n q cap : Nat) (ad : Option Addr) (l : List Int) (w : World) (hl : l.length = q) (hv : IntsAt w (.slice ad q cap) l) (hq : q ≤ 9223372036854775807) :
    Calls Tryd.prog 122 #[.slice ad q cap, .int .i64 n] w fun e w' => e = .returned (.int .i64 (mayE n l)) ∧ w' = w := by
  have HC : Hid (∀ k, k < q → ∃ cb off, ad = some ⟨cb, off, none⟩ ∧ w.cell? ⟨cb, off + k, none⟩ = some (.int .i64 (l.getD k 0))) := fun k hk => hv.at hl k hk
  have HE0 : Hid (¬ q = n → mayE n l = 6) := fun h => by rw [mayE, hl, if_neg h]
  have HEt : Hid (q = n → cstA l q = true → mayE n l = 0) := fun h h' => by rw [mayE, hl, if_pos h, if_pos h']
  have HEf : Hid (q = n → cstA l q = false → mayE n l = 13) := fun h h' => by rw [mayE, hl, if_pos h, if_neg (by rw [h']; decide)]
  clear hv hl
  by_cases e : q = n
  · subst e
    have HT := hideD (HEt.out rfl)
    have HF := hideD (HEf.out rfl)
    clear HE0 HEt HEf
    have q1 : (q : Int) ≤ 9223372036854775807 := by omega
    go_enter Tryd.func122, Tryd.ntmps122
    go_wp2_with fail
    go_loopw [13] (fun s wr => ∃ (K : Nat), K ≤ q ∧ s = .int .i64 (K : Int) ∧ Hid (cstA l K = true) ∧ wr = w) (fun s _ => q - (intOf s).toNat)
    case atStart => exact ⟨0, by omega, rfl, rfl, rfl⟩
    case round =>
      obtain ⟨K, hK, rfl, hA, rfl⟩ := hrel
      by_cases ck : K < q
      · have k0 : (0 : Int) ≤ (K : Int) := by omega
        have k1 : (K : Int) < (q : Int) := by omega
        obtain ⟨cb, off, rfl, c1⟩ := HC.out K ck
        have st : Hid (cstA l (K + 1) = cstB (l.getD K 0)) := by show _ = _; simp [cstA, hA.out]
        generalize l.getD K 0 = x at *
        by_cases x1 : x < -1
        · have st3 : Hid (cstA l q = false) := cstA_false (k := K + 1) q (by omega) (by rw [st.out]; simp [cstB]; omega)
          clear st
          go_wp2_with fail
          go_ret
          exact ⟨by rw [HF.out st3.out]; rfl, rfl⟩
        · by_cases x2 : 1048576 < x
          · have st3 : Hid (cstA l q = false) := cstA_false (k := K + 1) q (by omega) (by rw [st.out]; simp [cstB]; omega)
            clear st
            go_wp2_with fail
            go_ret
            exact ⟨by rw [HF.out st3.out]; rfl, rfl⟩
          · have st3 : Hid (cstA l (K + 1) = true) := by show _ = _; rw [st.out]; simp [cstB]; omega
            clear st
            go_wp2_with fail
            go_roundw
            case rel => exact ⟨K + 1, by omega, by go_num, st3, by trivial⟩
            case measure => simp [intOf]; omega
      · have eK : K = q := by omega
        subst eK
        go_wp2_with fail
        go_ret
        exact ⟨by rw [HT.out hA.out]; rfl, rfl⟩
  · have e' : ¬ ((q : Int) = (n : Int)) := by omega
    go_enter Tryd.func122, Tryd.ntmps122
    go_wp2_with fail
    go_ret
    exact ⟨by rw [HE0.out e]; rfl, rfl⟩
/-- The constants as cells are held against them, that of the number 0 first. -/
def cstL (l : List Int) (K : Nat) : List Int := 0 :: (l.take K).map (fun c => max c 0)
def cstN (l : List Int) (i : Nat) : Int := if i = 0 then 0 else max (l.getD (i - 1) 0) 0
theorem cstL_next (l : List Int) (K : Nat) (hK : K < l.length) : cstL l (K + 1) = cstL l K ++ [max (l.getD K 0) 0] := by
  unfold cstL
  have e : l.getD K 0 = l[K] := by simp [List.getD, hK]
  rw [List.take_add_one, List.map_append, List.getElem?_eq_getElem hK, e]
  rfl
theorem cstL_len (l : List Int) (K : Nat) (hK : K ≤ l.length) : (cstL l K).length = K + 1 := by simp [cstL]; omega
theorem cstL_get (l : List Int) (i : Nat) (hi : i < l.length + 1) : (cstL l l.length)[i]? = some (cstN l i) := by
  unfold cstL cstN
  cases i with
  | zero => rfl
  | succ i =>
    have : i < l.length := by omega
    simp [List.getD, this]
theorem info_int : (Tryd.prog.info? 3).map (fun i => (i.zero, i.size, i.bytes)) = some (some (.int .i64 0), 1, 8) := by kernel_rfl
set_option maxHeartbeats 4000000 in
theorem counted_any (q cap : Nat) (ad : Option Addr) (l : List Int) (w : World) (hl : l.length = q) (hv : IntsAt w (.slice ad q cap) l) (hq : q ≤ 1000) :
    Calls Tryd.prog 149 #[.slice ad q cap] w fun e w' => (∃ v, e = .returned v ∧ Hid (w'.ownsRow w.heap.size 3 1 v (q + 1) ((cstL l q).map (Value.int .i64)))) ∧ Below w.heap.size w w' := by
  have HC : Hid (∀ wr, Below w.heap.size w wr → ∀ k, k < q → ∃ cb off, ad = some ⟨cb, off, none⟩ ∧ wr.cell? ⟨cb, off + k, none⟩ = some (.int .i64 (l.getD k 0))) := fun wr hb k hk => (hv.past hb).at hl k hk
  have NX : Hid (∀ K, K < q → (cstL l (K + 1)).map (Value.int .i64) = (cstL l K).map (Value.int .i64) ++ [.int .i64 (max (l.getD K 0) 0)]) := fun K hK => by
    rw [cstL_next l K (by omega), List.map_append]; rfl
  obtain ⟨i0, hi0, hz0, hz1, hz2⟩ := info_parts info_int
  have q1 : (q : Int) ≤ 9223372036854775807 := by omega
  clear hv hl
  go_enter Tryd.func149, Tryd.ntmps149
  go_wp2_with fail
  have own0 : Hid ((w.alloc (.cells #[.int .i64 0] 3)).ownsRow w.heap.size 3 1 (.slice (some ⟨w.heap.size, 0, none⟩) 1 1) (0 + 1) ((cstL l 0).map (Value.int .i64))) := World.ownsRow_lit w #[.int .i64 0] 1 (Nat.le_refl _) (by decide) rfl
  have B0 := hideD (below_one w (.cells #[.int .i64 0] 3))
  generalize w.alloc (.cells #[.int .i64 0] 3) = w0 at *
  go_loopw [3, 9] (fun u s wr => ∃ (K : Nat), K ≤ q ∧ s = .int .i64 (K : Int) ∧ Hid (wr.ownsRow w.heap.size 3 1 u (K + 1) ((cstL l K).map (Value.int .i64))) ∧ Hid (Below w.heap.size w wr)) (fun _ s _ => q - (intOf s).toNat)
  case atStart => exact ⟨0, by omega, rfl, own0, B0⟩
  case round =>
    obtain ⟨K, hK, rfl, hown, hB⟩ := hrel
    clear own0 B0
    by_cases ck : K < q
    · have k0 : (0 : Int) ≤ (K : Int) := by omega
      have k1 : (K : Int) < (q : Int) := by omega
      obtain ⟨cb, off, rfl, c1⟩ := HC.out wr hB.out K ck
      have nx := hideD (NX.out K ck)
      generalize l.getD K 0 = x at *
      have hsz := hB.out.size
      have HN : Hid (∀ j u, [Value.int .i64 (max x 0)][j]? = some u → (wr.alloc (.cells #[.int .i64 (max x 0)] 3)).cell? ((⟨wr.heap.size, 0, none⟩ : Addr).add j) = some u) := by
        intro j u hj
        match j, hj with
        | 0, hj => simp at hj; subst hj; simp [Addr.add]
      go_wp2_with (at_builtin; first | (refine wpList_append_own _ rfl _ _ 74 rfl w.heap.size 3 i0 (.int .i64 0) 1 8 Tryd.underlying74 hi0 hz0 hz1 hz2 rfl (by decide) _ (K + 1) ((cstL l K).map (Value.int .i64)) rfl (hown.out.alloc _) ⟨wr.heap.size, 0, none⟩ 1 1 [.int .i64 (max x 0)] rfl rfl HN.out (fun u hu => by simp at hu; subst hu; rfl) (by unfold maxLen; omega) (by omega) (by simp; omega) ?_; intro v' w1 hown' hgrow hnil))
      have hb1 : Below w.heap.size w w1 := (hB.out.alloc hsz _).grown hgrow (by simp; omega) (by intro q hq; exact (hown.out.lt q hq).1)
      have B5 := hideD hb1
      have own5 : Hid (w1.ownsRow w.heap.size 3 1 v' (K + 1 + 1) ((cstL l (K + 1)).map (Value.int .i64))) := by
        show w1.ownsRow _ _ _ _ _ _
        rw [nx.out]
        exact hown'
      clear hown' hgrow hnil hb1 HN hown hB
      exact ⟨⟨K + 1, by omega, by go_num, own5, B5⟩, by simp [intOf]; omega⟩
    · have eK : K = q := by omega
      subst eK
      go_wp2_with fail
      go_ret
      exact ⟨⟨_, rfl, hown⟩, hB.out⟩
/-- The clocks that are held against nothing. -/
def silL (lo up : List Int) : Nat → List Int
  | 0 => []
  | K + 1 => if lo.getD K 0 = -1 ∧ up.getD K 0 = -1 then silL lo up K ++ [(K : Int) + 1] else silL lo up K
theorem silL_len (lo up : List Int) : ∀ K, (silL lo up K).length ≤ K
  | 0 => Nat.le_refl _
  | K + 1 => by
    have := silL_len lo up K
    unfold silL
    split
    · rw [List.length_append]; simp; omega
    · omega
theorem silL_mem {lo up : List Int} {x : Int} : ∀ K, x ∈ silL lo up K ↔ ∃ k, k < K ∧ x = (k : Int) + 1 ∧ lo.getD k 0 = -1 ∧ up.getD k 0 = -1
  | 0 => ⟨fun h => (by cases h), fun ⟨k, h, _⟩ => (by omega)⟩
  | K + 1 => by
    have ih := silL_mem (lo := lo) (up := up) (x := x) K
    unfold silL
    split
    · rename_i c
      rw [List.mem_append, ih]
      constructor
      · rintro (⟨k, h1, h2⟩ | h)
        · exact ⟨k, by omega, h2⟩
        · exact ⟨K, by omega, by simpa using h, c⟩
      · rintro ⟨k, h1, h2, h3⟩
        by_cases e : k = K
        · subst e; exact .inr (by simpa using h2)
        · exact .inl ⟨k, by omega, h2, h3⟩
    · rename_i c
      rw [ih]
      constructor
      · rintro ⟨k, h1, h2⟩; exact ⟨k, by omega, h2⟩
      · rintro ⟨k, h1, h2, h3⟩
        by_cases e : k = K
        · subst e; exact absurd h3 c
        · exact ⟨k, by omega, h2, h3⟩
set_option maxHeartbeats 4000000 in
theorem silent_any (q cap cap' : Nat) (ad ad' : Option Addr) (lo up : List Int) (w : World) (hl : lo.length = q) (hu : up.length = q) (hv : IntsAt w (.slice ad q cap) lo) (hv' : IntsAt w (.slice ad' q cap') up) (hq : q ≤ 1000) :
    Calls Tryd.prog 151 #[.slice ad q cap, .slice ad' q cap'] w fun e w' => (∃ v, e = .returned v ∧ Hid (w'.ownsRow w.heap.size 3 1 v (silL lo up q).length ((silL lo up q).map (Value.int .i64)))) ∧ Below w.heap.size w w' := by
  have HC : Hid (∀ wr, Below w.heap.size w wr → ∀ k, k < q → ∃ cb off, ad = some ⟨cb, off, none⟩ ∧ wr.cell? ⟨cb, off + k, none⟩ = some (.int .i64 (lo.getD k 0))) := fun wr hb k hk => (hv.past hb).at hl k hk
  have HC' : Hid (∀ wr, Below w.heap.size w wr → ∀ k, k < q → ∃ cb off, ad' = some ⟨cb, off, none⟩ ∧ wr.cell? ⟨cb, off + k, none⟩ = some (.int .i64 (up.getD k 0))) := fun wr hb k hk => (hv'.past hb).at hu k hk
  have NX : Hid (∀ K, silL lo up (K + 1) = if lo.getD K 0 = -1 ∧ up.getD K 0 = -1 then silL lo up K ++ [(K : Int) + 1] else silL lo up K) := fun K => rfl
  have LN := hideD (silL_len lo up)
  obtain ⟨i0, hi0, hz0, hz1, hz2⟩ := info_parts info_int
  have q1 : (q : Int) ≤ 9223372036854775807 := by omega
  clear hv hl hv' hu
  go_enter Tryd.func151, Tryd.ntmps151
  go_wp2_with fail
  go_loopw [5, 9] (fun u s wr => ∃ (K : Nat), K ≤ q ∧ s = .int .i64 (K : Int) ∧ Hid (wr.ownsRow w.heap.size 3 1 u (silL lo up K).length ((silL lo up K).map (Value.int .i64))) ∧ Hid (Below w.heap.size w wr)) (fun _ s _ => q - (intOf s).toNat)
  case atStart => exact ⟨0, by omega, rfl, World.ownsRow_nil _ _ _ _, Below.refl _ _⟩
  case round =>
    obtain ⟨K, hK, rfl, hown, hB⟩ := hrel
    by_cases ck : K < q
    · have k0 : (0 : Int) ≤ (K : Int) := by omega
      have k1 : (K : Int) < (q : Int) := by omega
      obtain ⟨cb, off, rfl, c1⟩ := HC.out wr hB.out K ck
      obtain ⟨cb', off', rfl, c2⟩ := HC'.out wr hB.out K ck
      have nx := hideD (NX.out K)
      have ln := LN.out K
      have hsz := hB.out.size
      generalize lo.getD K 0 = x at *
      generalize up.getD K 0 = y at *
      by_cases cx : x = -1
      · by_cases cy : y = -1
        · rw [if_pos ⟨cx, cy⟩] at nx
          have HN : Hid (∀ j u, [Value.int .i64 ((K : Int) + 1)][j]? = some u → (wr.alloc (.cells #[.int .i64 ((K : Int) + 1)] 3)).cell? ((⟨wr.heap.size, 0, none⟩ : Addr).add j) = some u) := by
            intro j u hj
            match j, hj with
            | 0, hj => simp at hj; subst hj; simp [Addr.add]
          have ew : wrap64 ((K : Int) + 1) = (K : Int) + 1 := by unfold wrap64; omega
          subst cx cy
          generalize hS : silL lo up K = s at *
          have HS := hideD hS
          clear hS
          go_wp2_with (at_builtin; first | (refine wpList_append_own _ rfl _ _ 74 rfl w.heap.size 3 i0 (.int .i64 0) 1 8 Tryd.underlying74 hi0 hz0 hz1 hz2 rfl (by decide) _ s.length (s.map (Value.int .i64)) rfl (hown.out.alloc _) ⟨wr.heap.size, 0, none⟩ 1 1 [.int .i64 ((K : Int) + 1)] rfl rfl HN.out (fun u hu => by simp at hu; subst hu; rfl) (by unfold maxLen; omega) (by omega) (by simp; omega) ?_; intro v' w1 hown' hgrow hnil))
          have hb1 : Below w.heap.size w w1 := (hB.out.alloc hsz _).grown hgrow (by simp; omega) (by intro q hq; exact (hown.out.lt q hq).1)
          have B5 := hideD hb1
          have own5 : Hid (w1.ownsRow w.heap.size 3 1 v' (silL lo up (K + 1)).length ((silL lo up (K + 1)).map (Value.int .i64))) := by
            show w1.ownsRow _ _ _ _ _ _
            rw [nx.out, List.map_append, List.length_append]
            exact hown'
          clear hown' hgrow hnil hb1 HN hown hB
          exact ⟨⟨K + 1, by omega, by go_num, own5, B5⟩, by simp [intOf]; omega⟩
        · rw [if_neg (by omega)] at nx
          subst cx
          rw [← nx.out] at hown
          clear ln
          go_wp2_with fail
          go_roundw
          case rel => exact ⟨K + 1, by omega, by go_num, hown, hB⟩
          case measure => simp [intOf]; omega
      · rw [if_neg (by omega)] at nx
        rw [← nx.out] at hown
        clear ln
        go_wp2_with fail
        go_roundw
        case rel => exact ⟨K + 1, by omega, by go_num, hown, hB⟩
        case measure => simp [intOf]; omega
    · have eK : K = q := by omega
      subst eK
      go_wp2_with fail
      go_ret
      exact ⟨⟨_, rfl, hown⟩, hB.out⟩
end Go.Proofs.YtfffcmelkdmjaaaDoor
