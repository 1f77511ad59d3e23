/-
  The walk of the statement DbmOwn.
-/
import Derived.Test.YtbgdphdlgcefgaaKa
import Derived.OpenShut
namespace Go.Proofs.Ytbgdphdlgcefgaa
open Go.RowKit
set_option linter.unusedVariables false
set_option maxRecDepth 100000
theorem SliceAt.later {w w' : World} {v : Value} {l : List Int} (h : SliceAt w v l) (hb : Below w.heap.size w w') : SliceAt w' v l := by
  rcases h with h | ⟨b, off, cap, rfl, hc⟩
  · exact .inl h
  · exact .inr ⟨b, off, cap, rfl, fun j hj => kc _ _ hb (hc j hj)⟩
theorem wf_list {l : List Int} (wf : ∀ z ∈ l, (Lit.int .i32 z).wf = true) : ∀ j, j < l.length → -2147483648 ≤ l.getD j 0 ∧ l.getD j 0 ≤ 2147483647 := fun j hj => by
  have e : l.getD j 0 = l[j] := by simp [List.getD, hj]
  rw [e]
  exact bounds_i32 (wf _ (List.getElem_mem hj))
set_option maxHeartbeats 1000000 in
theorem cells_own (b n : Nat) (c : Row) (w : World) (hz : ZoneAt w b n c) (hn : n ≤ 8) :
    Calls Try.prog 7 #[.pointer (some ⟨b, 0, none⟩)] w fun e w' => (∃ v, e = .returned v ∧ w'.ownsRow w.heap.size 29 1 v ((n + 1) * (n + 1)) ((listOf c ((n + 1) * (n + 1))).map (Value.int .i32))) ∧ Below w.heap.size w w' := by
  have HU := hideD (used_any b n w hn hz.clocks)
  have hm : (n + 1) * (n + 1) ≤ 81 := Nat.mul_le_mul (show n + 1 ≤ 9 by omega) (show n + 1 ≤ 9 by omega)
  have hp : 0 < (n + 1) * (n + 1) := Nat.mul_pos (by omega) (by omega)
  generalize (n + 1) * (n + 1) = m at *
  have hl := listOf_len c m
  obtain ⟨i0, hi, hz0, hz1, hz2⟩ := info_parts info_bd
  have HZ := hideD hz
  clear hz
  go_enter Try.func7, Try.ntmps7
  go_wp2_with fail
  refine HU.out.mono ?_
  rintro e w1 ⟨rfl, hb⟩
  have hZ1 := hideD (HZ.out.past hb)
  have hB1 := hideD hb
  have HN : Hid (∀ j u, ((listOf c m).map (Value.int .i32))[j]? = some u → w1.cell? ((⟨b, 1, none⟩ : Addr).add j) = some u) := by
    intro j u hu
    rw [Addr.add_lit]
    by_cases hj : j < m
    · rw [hZ1.out.cell j (by omega)]
      simp [listOf, hj] at hu
      simp [hu]
    · rw [List.getElem?_eq_none (by simp [hl]; omega)] at hu
      cases hu
  clear hb HU HZ
  go_wp2_with (at_builtin; refine wpList_append_own _ rfl _ _ 22 rfl w1.heap.size 29 i0 (.int .i32 0) 1 4 Try.underlying22 hi hz0 hz1 hz2 rfl (by decide) _ 0 [] rfl (World.ownsRow_nil _ _ _ _) ⟨b, 1, none⟩ m 81 ((listOf c m).map (Value.int .i32)) rfl (by simp [hl]) HN.out (fun x hx => by obtain ⟨z, _, rfl⟩ := List.mem_map.1 hx; rfl) (by unfold maxLen; omega) (by omega) (Nat.le_refl _) ?_; intro v' w2 hown hgrow hnil)
  have hb2 : Below w1.heap.size w1 w2 := (Below.refl _ _).grown hgrow (Nat.le_refl _) (by intro k hk; cases hk)
  go_ret
  refine ⟨⟨v', rfl, ?_⟩, beyondD hB1.out hb2⟩
  have := own_base hown hB1.out.size
  simpa using this
/-- The cells of a row are there, and may be written. -/
def Writes (w : World) (g m : Nat) : Prop := ∀ j, j < m → (∃ u, w.cell? ⟨g, j, none⟩ = some u) ∧ w.frozen? ⟨g, j, none⟩ = false
theorem Writes.set {w : World} {g m : Nat} (h : Writes w g m) (a : Addr) (x : Value) : Writes (w.setCell a x) g m := fun j hj => by
  obtain ⟨⟨u, hu⟩, hf⟩ := h j hj
  exact ⟨cell?_setCell_some hu, by rw [World.frozen?_setCell]; exact hf⟩
theorem writes_of {w : World} {base m : Nat} {E : TypeId} {v : Value} {xs : List Value} (h : w.ownsRow base E 1 v m xs) (hm : 0 < m) : ∃ g cap, v = .slice (some ⟨g, 0, none⟩) m cap ∧ base ≤ g ∧ g < w.heap.size ∧ Writes w g m := by
  obtain ⟨m', rfl⟩ : ∃ m', m = m' + 1 := ⟨m - 1, by omega⟩
  obtain ⟨g, cap, rfl⟩ := own_form h
  have hl := h.lt g rfl
  refine ⟨g, cap, rfl, hl.1, hl.2, fun j hj => ⟨?_, h.frozenAt j⟩⟩
  rw [h.cellAt j (by omega)]
  have := h.1
  exact ⟨xs[j]'(by omega), List.getElem?_eq_getElem _⟩
theorem row_of {w : World} {base g m cap : Nat} {l : List Int} (hl : l.length = m) (h : w.ownsRow base 29 1 (.slice (some ⟨g, 0, none⟩) m cap) m (l.map (Value.int .i32))) : RowAt w g 0 l := fun j hj => by
  rw [Nat.zero_add, h.cellAt j (by omega)]
  simp [List.getD, hj]
theorem zkey_nil (w : World) : Calls Try.prog 8 #[.pointer none] w fun e w' => e = .returned (.slice none 0 0) ∧ w' = w := by
  go_enter Try.func8, Try.ntmps8
  go_wp2_with fail
  go_ret
  exact ⟨rfl, rfl⟩
namespace dbmOwn
set_option maxHeartbeats 4000000 in
theorem walk (n : Int) (hn : (Lit.int .i64 n).wf = true) (v : Value) (l : List Int) (w : World) (hS : SliceAt w v l) (wf : ∀ z ∈ l, (Lit.int .i32 z).wf = true) (hby : l.length * 4 ≤ 140737488355328) (hnil : ∀ {c}, v = .slice none 0 c → c = 0) :
    Calls Try.prog 4 #[.int .i64 n, v] w fun e w' => e = .returned (.bool true) ∧ Below w.heap.size w w' := by
  have HB := hideD (both_any n v l w hS (wf_list wf) (by omega))
  clear hS wf hby hnil hn
  go_enter Try.func4, Try.ntmps4
  go_wp2_with fail
  refine HB.out.mono ?_
  rintro x w1 ⟨hx, hb⟩
  have B1 := hideD hb
  clear HB hb
  rcases hx with rfl | ⟨N, c, b, r, rfl, N8, rfl, lb, hz, hr⟩
  · go_wp2_with fail
    refine (zcells_nil _).mono ?_
    rintro x w2 ⟨rfl, rfl⟩
    go_wp2_with fail
    refine (zcells_nil _).mono ?_
    rintro x w2 ⟨rfl, rfl⟩
    go_wp2_with fail
    go_loopw [10] (fun s wr => s = .int .i64 0 ∧ wr = w2) (fun s _ => 1)
    case atStart => exact ⟨rfl, rfl⟩
    case round =>
      obtain ⟨rfl, rfl⟩ := hrel
      go_wp2_with fail
      refine (zkey_nil _).mono ?_
      rintro x w3 ⟨rfl, rfl⟩
      go_wp2_with fail
      go_loopw [12] (fun s wr => s = .int .i64 0 ∧ wr = w3) (fun s _ => 1)
      case atStart => exact ⟨rfl, rfl⟩
      case round =>
        obtain ⟨rfl, rfl⟩ := hrel
        go_wp2_with fail
        refine (live_any _).mono ?_
        rintro x w4 ⟨rfl, hb⟩
        have B4 := hideD (beyondD B1.out hb)
        clear hb
        go_wp2_with fail
        refine (zcells_nil _).mono ?_
        rintro x w5 ⟨rfl, rfl⟩
        go_wp2_with fail
        refine (same_nil _).mono ?_
        rintro x w6 ⟨rfl, k, rfl⟩
        go_wp2_with fail
        go_ret
        exact ⟨rfl, below_drewN B4.out k⟩
  · have mp : 0 < (N + 1) * (N + 1) := Nat.mul_pos (by omega) (by omega)
    have m81 : (N + 1) * (N + 1) ≤ 81 := Nat.mul_le_mul (show N + 1 ≤ 9 by omega) (show N + 1 ≤ 9 by omega)
    have CE : Hid (∀ w, ZoneAt w b N c → Calls Try.prog 7 #[.pointer (some ⟨b, 0, none⟩)] w fun e w' => (∃ v, e = .returned v ∧ w'.ownsRow w.heap.size 29 1 v ((N + 1) * (N + 1)) ((listOf c ((N + 1) * (N + 1))).map (Value.int .i32))) ∧ Below w.heap.size w w') := fun w h => cells_own b N c w h N8
    have KE : Hid (∀ w, ZoneAt w b N c → Calls Try.prog 8 #[.pointer (some ⟨b, 0, none⟩)] w fun e w' => (∃ v L xs, e = .returned v ∧ 0 < L ∧ L ≤ 325 ∧ w'.ownsRow w.heap.size 5 1 v L xs) ∧ Below w.heap.size w w') := fun w h => key_raw b N _ c w N8 rfl m81 h
    have hl := listOf_len c ((N + 1) * (N + 1))
    generalize (N + 1) * (N + 1) = m at *
    generalize listOf c m = L at *
    have Z1 := hideD hz
    clear hz hr
    have H1 := hideD (CE.out _ Z1.out)
    go_wp2_with fail
    refine H1.out.mono ?_
    rintro x w2 ⟨⟨v1, rfl, o1⟩, hb2⟩
    obtain ⟨g1, cap1, rfl, l1, l2, -⟩ := writes_of o1 mp
    have R1 := hideD (row_of hl o1)
    have Z2 := hideD (Z1.out.past hb2)
    have B2 := hideD (beyondD B1.out hb2)
    have H2 := hideD (CE.out _ Z2.out)
    have G1 := hideD l2
    clear H1 o1 l1 l2 hb2 B1 Z1
    go_wp2_with fail
    refine H2.out.mono ?_
    rintro x w3 ⟨⟨v2, rfl, o2⟩, hb3⟩
    obtain ⟨g2, cap2, rfl, l3, l4, wr2⟩ := writes_of o2 mp
    have R2 := hideD (R1.out.later hb3 G1.out)
    have Z3 := hideD (Z2.out.past hb3)
    have B3 := hideD (beyondD B2.out hb3)
    have W3 := hideD wr2
    have G2 : Hid (g1 < g2) := by show g1 < g2; have := G1.out; omega
    have GB : Hid (b < g2) := by show b < g2; have := Z2.out.lt; omega
    have GW : Hid (w.heap.size ≤ g2) := by show w.heap.size ≤ g2; have := B2.out.size; omega
    clear H2 o2 l3 l4 wr2 hb3 B2 Z2 R1 G1
    go_wp2_with fail
    go_loopw [10] (fun s wr => ∃ I : Nat, I ≤ m ∧ s = .int .i64 I ∧ Hid (RowAt wr g1 0 L) ∧ Hid (ZoneAt wr b N c) ∧ Hid (Below w.heap.size w wr) ∧ Hid (Writes wr g2 m)) (fun s _ => m - (intOf s).toNat)
    case atStart => exact ⟨0, by omega, rfl, R2, Z3, B3, W3⟩
    case round =>
      obtain ⟨I, hI, rfl, R2, Z3, B3, W3⟩ := hrel
      by_cases ci : I < m
      · obtain ⟨⟨u, hu⟩, hf⟩ := W3.out I ci
        have i1 : (I : Int) < (m : Int) := by omega
        have i2 : (m : Int) ≤ 81 := by omega
        go_wp2_with fail
        go_roundw
        case rel =>
          have hb : Below g2 wr (wr.setCell ⟨g2, I, none⟩ (.int .i32 5)) := Below.setCell (p := ⟨g2, I, none⟩) (Below.refl g2 wr) (Nat.le_refl _) _
          exact ⟨I + 1, by omega, by go_num, R2.out.later hb G2.out, Z3.out.later hb GB.out, B3.out.trans (hb.mono GW.out), W3.out.set _ _⟩
        case measure => simp [intOf]; omega
      · have H3 := hideD (KE.out _ Z3.out)
        go_wp2_with fail
        refine H3.out.mono ?_
        rintro x w4 ⟨⟨v3, M, xs, rfl, M0, M1, o3⟩, hb4⟩
        obtain ⟨g3, cap3, rfl, l5, l6, wr3⟩ := writes_of o3 M0
        have g1l : g1 < wr.heap.size := World.block_lt_of_cell? _ _ (R2.out 0 (by omega))
        have R4 := hideD (R2.out.later hb4 g1l)
        have Z4 := hideD (Z3.out.past hb4)
        have B4 := hideD (beyondD B3.out hb4)
        have W4 := hideD wr3
        have G3 : Hid (g1 < g3) := by show g1 < g3; omega
        have GC : Hid (b < g3) := by show b < g3; have := Z3.out.lt; omega
        have GV : Hid (w.heap.size ≤ g3) := by show w.heap.size ≤ g3; have := B3.out.size; omega
        have mm1 : (M : Int) ≤ 325 := by omega
        clear H3 o3 l5 l6 wr3 hb4 B3 Z3 R2 W3 g1l
        go_wp2_with fail
        go_loopw [12] (fun s wr => ∃ I : Nat, I ≤ M ∧ s = .int .i64 I ∧ Hid (RowAt wr g1 0 L) ∧ Hid (ZoneAt wr b N c) ∧ Hid (Below w.heap.size w wr) ∧ Hid (Writes wr g3 M)) (fun s _ => M - (intOf s).toNat)
        case atStart => exact ⟨0, by omega, rfl, R4, Z4, B4, W4⟩
        case round =>
          obtain ⟨J, hJ, rfl, R5, Z5, B5, W5⟩ := hrel
          clear R4 Z4 B4 W4
          by_cases cj : J < M
          · obtain ⟨⟨u, hu⟩, hf⟩ := W5.out J cj
            have j1 : (J : Int) < (M : Int) := by omega
            go_wp2_with fail
            go_roundw
            case rel =>
              refine ⟨J + 1, by omega, by go_num, ?_, ?_, ?_, W5.out.set _ _⟩
              · exact R5.out.later (Below.setCell (p := ⟨g3, J, none⟩) (Below.refl g3 _) (Nat.le_refl _) _) G3.out
              · exact Z5.out.later (Below.setCell (p := ⟨g3, J, none⟩) (Below.refl g3 _) (Nat.le_refl _) _) GC.out
              · exact B5.out.trans ((Below.setCell (p := ⟨g3, J, none⟩) (Below.refl g3 _) (Nat.le_refl _) _).mono GV.out)
            case measure => simp [intOf]; omega
          · clear W5
            go_wp2_with fail
            refine (live_any _).mono ?_
            rintro x w5 ⟨rfl, hb5⟩
            have g1k := World.block_lt_of_cell? _ _ (R5.out 0 (by omega))
            have R6 := hideD (R5.out.later hb5 g1k)
            have Z6 := hideD (Z5.out.past hb5)
            have B6 := hideD (beyondD B5.out hb5)
            have H6 := hideD (CE.out _ Z6.out)
            clear hb5 R5 Z5 B5 g1k
            go_wp2_with fail
            refine H6.out.mono ?_
            rintro x w6 ⟨⟨v4, rfl, o4⟩, hb6⟩
            obtain ⟨g4, cap4, rfl, l7, l8, -⟩ := writes_of o4 mp
            have g1m := World.block_lt_of_cell? _ _ (R6.out 0 (by omega))
            have HS := hideD (sameCells_same g4 g1 cap4 cap1 m L L w6 (row_of hl o4) (R6.out.later hb6 g1m) hl hl m81)
            rw [sc_of_eq _ _ _ (fun _ _ => rfl)] at HS
            have B7 := hideD (beyondD B6.out hb6)
            clear H6 o4 l7 l8 hb6 R6 Z6 B6 g1m
            go_wp2_with fail
            refine HS.out.mono ?_
            rintro x w7 ⟨rfl, k, rfl⟩
            go_wp2_with fail
            go_ret
            exact ⟨rfl, below_drewN B7.out k⟩
end dbmOwn
end Go.Proofs.Ytbgdphdlgcefgaa
