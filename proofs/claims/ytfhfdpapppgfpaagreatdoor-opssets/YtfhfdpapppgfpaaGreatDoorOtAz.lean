/-
  What the document's Keep tells of the empty zone.
-/
import Derived.Test.YtfhfdpapppgfpaaGreatDoorOt9z
namespace Go.Proofs.YtfhfdpapppgfpaaGreatDoor
open Go.RowKit
set_option linter.unusedVariables false
set_option maxRecDepth 100000
set_option maxHeartbeats 4000000 in
theorem rkeep_empty (r n m B q cap : Nat) (ad : Option Addr) (l : List Int) (c : Row) (w : World) (hm : m = (n + 1) * (n + 1)) (h : RZone w B r n (listOf c m)) (h0 : c 0 = 0) (hl : l.length = q) (hv : IntsAt w (.slice ad q cap) l) (hq : q ≤ 8) (ha : hasA n l q = true) :
    Calls Tryz.prog 17 #[.pointer (some ⟨r, 0, none⟩), .slice ad q cap] w fun e w' => RefOut w' q ((q + 1) * (q + 1)) e (some fun _ => 0) ∧ Below w.heap.size w w' := by
  have mp : 0 < m := by rw [hm]; exact Nat.mul_pos (by omega) (by omega)
  have HE : Hid (∀ w', Below w.heap.size w w' → _) := fun w' hb => rempty_is (h.past hb) mp
  rw [h0] at HE
  have HN : Hid (∀ w, _) := fun w => nothing_any q ((q + 1) * (q + 1)) w hq rfl
  have AT : Hid (∀ k, k < q → clockB n (l.getD k 0) = true) := fun k hk => decide_eq_true (by have := hasA_at ha k hk; omega)
  have HI : Hid (∀ w' k, Below w.heap.size w w' → _) := fun w' k hb => isClock_any (l.getD k 0) (h.past hb)
  have HC : Hid (∀ w', Below w.heap.size w w' → ∀ k, k < q → ∃ cb off, ad = some ⟨cb, off, none⟩ ∧ w'.cell? ⟨cb, off + k, none⟩ = some (.int .i64 (l.getD k 0))) := fun w' hb k hk => (hv.past hb).at hl k hk
  have HA := hideD ha
  have HL := hideD hl
  obtain ⟨i0, hi0, hz0, hz1, hz2⟩ := info_parts info_int'
  have O0 : Hid ((w.alloc (.cells #[.int .i64 0] 3)).ownsRow w.heap.size 3 1 (.slice (some ⟨w.heap.size, 0, none⟩) 1 1) 1 [.int .i64 0]) := own_one _ _ _
  have Bz : Hid (Below w.heap.size w (w.alloc (.cells #[.int .i64 0] 3))) := below_one _ _
  clear h hv hl ha
  have q1 : ¬ ((8 : Int) < (q : Int)) := by omega
  go_enter Tryz.func17, Tryz.ntmps17
  go_wp2_with fail
  go_loopg [6, 7] q (fun g' v u wr => ∃ (K : Nat), K ≤ q ∧ g' = q - K ∧ u = .int .i64 (K : Int) ∧ Hid (wr.ownsRow w.heap.size 3 1 v (K + 1) ((0 :: l.take K).map (Value.int .i64))) ∧ Hid (Below w.heap.size w wr))
  case atStart => exact ⟨0, by omega, rfl, rfl, O0, Bz⟩
  case round =>
    obtain ⟨K, hK, rfl, rfl, hO, hB⟩ := hrel
    clear O0 Bz
    by_cases ck : K < q
    · have k0 : (0 : Int) ≤ (K : Int) := by omega
      have k1 : (K : Int) < (q : Int) := by omega
      obtain ⟨cb, off, rfl, a1⟩ := HC.out wr hB.out K ck
      have H1 := hideD (HI.out wr K hB.out)
      have hx := AT.out K ck
      rw [hx] at H1
      have TN := hideD (take_next l K (by have := HL.out; omega))
      clear hx
      generalize l.getD K 0 = x at H1 TN a1
      go_wp2_with fail
      refine H1.out.mono ?_
      rintro e w1 ⟨rfl, hw⟩
      subst hw
      clear H1
      have SZ : Hid (w.heap.size ≤ w1.heap.size) := hB.out.size
      have ob := hideD (fun k hk => (hO.out.lt k hk).1)
      go_wp2_with (at_builtin; refine wpList_append_own _ rfl _ _ 23 rfl w.heap.size 3 i0 (.int .i64 0) 1 8 Tryz.underlying23 hi0 hz0 hz1 hz2 rfl (by decide) _ (K + 1) ((0 :: l.take K).map (Value.int .i64)) rfl (hO.out.alloc _) ⟨w1.heap.size, 0, none⟩ 1 1 [.int .i64 x] rfl rfl (cell_one_new w1 _ _) (fun u hu => by simp at hu; subst hu; rfl) (by unfold maxLen; omega) (by omega) (by have := SZ.out; simp; omega) ?_; intro v' w3 hown hgrow hnil; have B3 : Hid (Below w.heap.size w w3) := (hB.out.alloc SZ.out _).grown hgrow (by have := SZ.out; simp; omega) (fun k hk => ob.out k hk); rw [TN.out] at hown; have O3 := hideD hown; clear hown hgrow hnil)
      go_roundg (q - (K + 1))
      case measure => omega
      case rel => exact ⟨K + 1, by omega, rfl, by go_num, O3, B3⟩
    · have k1 : ¬ ((K : Int) < (q : Int)) := by omega
      have H1 := hideD (HE.out wr hB.out)
      clear HI HC HE AT hO
      go_wp2_with fail
      refine H1.out.mono ?_
      rintro e w1 ⟨rfl, hw⟩
      subst hw
      clear H1
      go_wp2_with fail
      refine (HN.out _).mono ?_
      rintro e w4 ⟨⟨b, B', rfl, hz⟩, hb⟩
      have FIN : Hid (RefOut w4 q ((q + 1) * (q + 1)) (.returned (.tuple #[.pointer (some ⟨b, 0, none⟩), .int .i64 0])) (some fun _ => 0)) := ⟨B', b, rfl, hz⟩
      have B4 := hideD (beyondD hB.out hb)
      clear hz hb HN
      go_wp2_with fail
      exact bodyPost_ret (v := .tuple #[.pointer (some ⟨b, 0, none⟩), .int .i64 0]) (by simp [results, Tryz.results17, go_sem]) rfl ⟨FIN.out, B4.out⟩
end Go.Proofs.YtfhfdpapppgfpaaGreatDoor
