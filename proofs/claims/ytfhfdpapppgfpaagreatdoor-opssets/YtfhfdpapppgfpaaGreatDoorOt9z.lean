/-
  What the document's Keep tells of what is no clock, and of the empty zone.
-/
import Derived.Test.YtfhfdpapppgfpaaGreatDoorZq
import Derived.Test.YtfhfdpapppgfpaaGreatDoorOt2z
namespace Go.Proofs.YtfhfdpapppgfpaaGreatDoor
open Go.RowKit
set_option linter.unusedVariables false
set_option maxRecDepth 100000
theorem take_next (l : List Int) (K : Nat) (h : K < l.length) : ((0 :: l.take K).map (Value.int .i64)) ++ [.int .i64 (l.getD K 0)] = (0 :: l.take (K + 1)).map (Value.int .i64) := by
  have e : l.take (K + 1) = l.take K ++ [l.getD K 0] := by
    rw [List.take_add_one, List.getElem?_eq_getElem h, List.getD, List.getElem?_eq_getElem h]
    rfl
  rw [e, ← List.cons_append, List.map_append]
  rfl
set_option maxHeartbeats 4000000 in
theorem rkeep_err (r n B q cap : Nat) (ad : Option Addr) (l L : List Int) (w : World) (h : RZone w B r n L) (hl : l.length = q) (hv : IntsAt w (.slice ad q cap) l) (hq : q ≤ 8) (ha : hasA n l q = false) :
    Calls Tryz.prog 17 #[.pointer (some ⟨r, 0, none⟩), .slice ad q cap] w fun e w' => e = errOf 12 ∧ Below w.heap.size w w' := by
  have HI : Hid (∀ w' k, Below w.heap.size w w' → _) := fun w' k hb => isClock_any (l.getD k 0) (h.past hb)
  have HC : Hid (∀ w', Below w.heap.size w w' → ∀ k, k < q → ∃ cb off, ad = some ⟨cb, off, none⟩ ∧ w'.cell? ⟨cb, off + k, none⟩ = some (.int .i64 (l.getD k 0))) := fun w' hb k hk => (hv.past hb).at hl k hk
  have HA := hideD ha
  have HL := hideD hl
  obtain ⟨i0, hi0, hz0, hz1, hz2⟩ := info_parts info_int'
  have O0 : Hid ((w.alloc (.cells #[.int .i64 0] 3)).ownsRow w.heap.size 3 1 (.slice (some ⟨w.heap.size, 0, none⟩) 1 1) 1 [.int .i64 0]) := own_one _ _ _
  have Bz : Hid (Below w.heap.size w (w.alloc (.cells #[.int .i64 0] 3))) := below_one _ _
  clear h hv hl ha
  have q1 : ¬ ((8 : Int) < (q : Int)) := by omega
  go_enter Tryz.func17, Tryz.ntmps17
  go_wp2_with fail
  go_loopg [6, 7] q (fun g' v u wr => ∃ (K : Nat), K ≤ q ∧ g' = q - K ∧ u = .int .i64 (K : Int) ∧ Hid (wr.ownsRow w.heap.size 3 1 v (K + 1) ((0 :: l.take K).map (Value.int .i64))) ∧ Hid (Below w.heap.size w wr) ∧ Hid (hasA n l K = true))
  case atStart => exact ⟨0, by omega, rfl, rfl, O0, Bz, rfl⟩
  case round =>
    obtain ⟨K, hK, rfl, rfl, hO, hB, hT⟩ := hrel
    clear O0 Bz
    by_cases ck : K < q
    · have k0 : (0 : Int) ≤ (K : Int) := by omega
      have k1 : (K : Int) < (q : Int) := by omega
      obtain ⟨cb, off, rfl, a1⟩ := HC.out wr hB.out K ck
      have H1 := hideD (HI.out wr K hB.out)
      cases hx : clockB n (l.getD K 0) with
      | false =>
        rw [hx] at H1
        clear hx HI HC hO
        go_wp2_with fail
        refine H1.out.mono ?_
        rintro e w1 ⟨rfl, hw⟩
        subst hw
        clear H1 a1
        go_wp2_with fail
        exact bodyPost_ret (v := .tuple #[.pointer none, .int .i64 12]) (by simp [results, Tryz.results17, go_sem]) rfl ⟨rfl, hB.out⟩
      | true =>
        have NX : Hid (hasA n l (K + 1) = true) := by show _ = _; rw [hasA, hT.out, hx]; rfl
        rw [hx] at H1
        have TN := hideD (take_next l K (by have := HL.out; omega))
        clear hx
        generalize l.getD K 0 = x at H1 TN a1
        go_wp2_with fail
        refine H1.out.mono ?_
        rintro e w1 ⟨rfl, hw⟩
        subst hw
        clear H1
        have SZ : Hid (w.heap.size ≤ w1.heap.size) := hB.out.size
        have ob := hideD (fun k hk => (hO.out.lt k hk).1)
        go_wp2_with (at_builtin; refine wpList_append_own _ rfl _ _ 23 rfl w.heap.size 3 i0 (.int .i64 0) 1 8 Tryz.underlying23 hi0 hz0 hz1 hz2 rfl (by decide) _ (K + 1) ((0 :: l.take K).map (Value.int .i64)) rfl (hO.out.alloc _) ⟨w1.heap.size, 0, none⟩ 1 1 [.int .i64 x] rfl rfl (cell_one_new w1 _ _) (fun u hu => by simp at hu; subst hu; rfl) (by unfold maxLen; omega) (by omega) (by have := SZ.out; simp; omega) ?_; intro v' w3 hown hgrow hnil; have B3 : Hid (Below w.heap.size w w3) := (hB.out.alloc SZ.out _).grown hgrow (by have := SZ.out; simp; omega) (fun k hk => ob.out k hk); rw [TN.out] at hown; have O3 := hideD hown; clear hown hgrow hnil)
        go_roundg (q - (K + 1))
        case measure => omega
        case rel => exact ⟨K + 1, by omega, rfl, by go_num, O3, B3, NX⟩
    · obtain rfl : K = q := by omega
      exact absurd hT.out (by rw [HA.out]; exact Bool.false_ne_true)
end Go.Proofs.YtfhfdpapppgfpaaGreatDoor
