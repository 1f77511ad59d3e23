/-
  point.Print.
-/
import Derived.Test.YteifpplemohdcaaGreatDoorQ17
import Derived.Test.YteifpplemohdcaaGreatDoorQ19
import Derived.Test.YteifpplemohdcaaGreatDoorSj
namespace Go.Proofs.YteifpplemohdcaaGreatDoor
open Go.RowKit Go.Shelf
set_option linter.unusedVariables false
set_option maxRecDepth 100000
theorem infoStr : (Tryz.prog.info? 9).map (fun i => (i.zero, i.size, i.bytes)) = some (some (.string ⟨#[]⟩), 1, 16) := by kernel_rfl
theorem row_cell {w : World} {base : Nat} {e : TypeId} {size n k cap g : Nat} {xs : List Value} (h : w.ownsRow base e size (.slice (some ⟨g, 0, none⟩) k cap) n xs) (j : Nat) (u : Value) (hu : xs[j]? = some u) : w.cell? ⟨g, j, none⟩ = some u := by
  have := h.cells (g := g) rfl j u hu
  have hadd : (⟨g, 0, none⟩ : Addr).add j = ⟨g, j, none⟩ := by unfold Addr.add; split <;> simp_all
  rw [hadd] at this
  exact this
def txtB (L : Rats) (K : Nat) : List ByteArray := (txtL L K).map fun l => ⟨l.toArray⟩
theorem txtB_next (L : Rats) (K : Nat) : txtB L (K + 1) = txtB L K ++ [⟨(printR (L.n K) (L.d K)).toArray⟩] := by simp [txtB, txtL_next]
theorem txtB_len (L : Rats) (K : Nat) : (txtB L K).length = K := by simp [txtB, txtL_len]
theorem txtB_data (L : Rats) (K : Nat) : (txtB L K).map (·.data.toList) = txtL L K := by simp [txtB, List.map_map, Function.comp_def]
theorem join_len (xs : List (List UInt8)) : (Lib.join xs [32]).length ≤ (xs.map fun x => x.length + 1).sum := by
  cases xs with
  | nil => simp [Lib.join, List.intercalate]
  | cons x r =>
    rw [Lib.join_cons]
    have : ∀ r : List (List UInt8), (Lib.joinTail [32] r).length = (r.map fun x => x.length + 1).sum := by
      intro r
      induction r with
      | nil => rfl
      | cons y r ih =>
        simp only [Lib.joinTail, List.map_cons, List.flatten_cons, List.length_append, List.length_cons, List.length_nil, List.sum_cons] at ih ⊢
        omega
    simp only [List.length_append, List.map_cons, List.sum_cons, this]
    omega
theorem txt_sum {L : Rats} : ∀ K, (∀ k, k < K → I64 (L.n k) ∧ I64 (L.d k)) → ((txtL L K).map fun x => x.length + 1).sum ≤ 44 * K
  | 0, _ => by simp [txtL]
  | K + 1, h => by
    have ih := txt_sum K fun k hk => h k (by omega)
    have := prt_len (h K (by omega)).1 (h K (by omega)).2
    rw [txtL_next]
    simp only [List.map_append, List.map_cons, List.map_nil, List.sum_append, List.sum_cons, List.sum_nil]
    omega
theorem pprint_no (ad : Option Addr) (q cap : Nat) (L : Rats) (w : World) (HR : Hid (Calls Tryz.prog 11 #[.slice ad q cap] w fun e w' => e = .returned (.bool false) ∧ Below w.heap.size w w')) :
    Calls Tryz.prog 8 #[.slice ad q cap] w fun e w' => e = .returned (.string ⟨#[]⟩) ∧ Below w.heap.size w w' := by
  go_enter Tryz.func8, Tryz.ntmps8
  go_wp2_with fail
  refine HR.out.mono ?_
  rintro e w1 ⟨rfl, hb⟩
  have B1 := hideR hb
  clear hb HR
  go_wp2_with fail
  go_ret
  exact ⟨rfl, B1.out⟩
set_option maxHeartbeats 2000000 in
theorem pprint_yes (ad : Option Addr) (q cap : Nat) (L : Rats) (w : World) (hq : L.q = q) (q8 : q ≤ 8) (hV : RatV w ad L) (hI : RatI L) (ht : Pow w) (HR : Hid (Calls Tryz.prog 11 #[.slice ad q cap] w fun e w' => e = .returned (.bool true) ∧ Below w.heap.size w w')) :
    Calls Tryz.prog 8 #[.slice ad q cap] w fun e w' => e = .returned (.string ⟨(Lib.join (txtL L q) [32]).toArray⟩) ∧ Below w.heap.size w w' := by
  obtain ⟨i0, hi, hz0, hz1, hz2⟩ := info_parts infoStr
  have HV := hideR hV
  have HI := hideR hI
  have HQ := hideR hq
  have HT := hideR ht
  have HS : Hid ((Lib.join (txtL L q) [32]).length ≤ 140737488355328) := by
    show _ ≤ _
    have h1 := join_len (txtL L q)
    have h2 := txt_sum (L := L) q (fun k hk => hI k (by omega))
    omega
  have n1 : (q : Int) ≤ 8 := by omega
  clear hV hI hq ht
  go_enter Tryz.func8, Tryz.ntmps8
  go_wp2_with fail
  refine HR.out.mono ?_
  rintro e w0 ⟨rfl, hb0⟩
  have B0 := hideR hb0
  clear hb0 HR
  go_wp2_with fail
  go_loopw [3, 11] (fun l s wr => ∃ (K : Nat) (v : Value), K ≤ q ∧ l = v ∧ s = .int .i64 (K : Int) ∧ Hid (wr.ownsRow w.heap.size 9 1 v K ((txtB L K).map Value.string)) ∧ Hid (v = .slice none 0 0 ↔ K = 0) ∧ Hid (Below w.heap.size w wr)) (fun _ s _ => q - (intOf s).toNat)
  case atStart => exact ⟨0, _, Nat.zero_le _, rfl, rfl, World.ownsRow_nil _ _ _ _, ⟨fun _ => rfl, fun _ => rfl⟩, B0.out⟩
  case round =>
    obtain ⟨K, v, hK, hv, rfl, O, NV, B⟩ := hrel
    replace hv := hv.symm
    subst hv
    by_cases ck : K < q
    · obtain ⟨b, off, rfl, e0, e1⟩ := HV.out K (by rw [HQ.out]; exact ck)
      have e0 := kc _ _ B.out e0
      have e1 := kc _ _ B.out e1
      have k0 : (K : Int) < (q : Int) := by omega
      have iK := HI.out K (by rw [HQ.out]; exact ck)
      have RN : Hid ((txtB L (K + 1)).map Value.string = (txtB L K).map Value.string ++ [.string ⟨(printR (L.n K) (L.d K)).toArray⟩]) := by show _ = _; rw [txtB_next, List.map_append]; rfl
      have HL := hideR (fun w' (h : Below w.heap.size w w') => rprintT (L.n K) (L.d K) w' iK.1 iK.2 (pow_later HT.out h))
      generalize (⟨(printR (L.n K) (L.d K)).toArray⟩ : ByteArray) = p at HL RN
      clear iK
      generalize L.n K = x at HL e0
      generalize L.d K = y at HL e1
      have Ba := hideR (beyond B.out (single wr (.cells #[.int .i64 x, .int .i64 y] 33)))
      have HL := hideR (HL.out _ Ba.out)
      go_wp2_with fail
      refine HL.out.mono ?_
      rintro e w1 ⟨rfl, hb⟩
      have O1 : w1.ownsRow w.heap.size 9 1 v K ((txtB L K).map Value.string) := World.ownsRow.kept (O.out.alloc _) (grown_below hb (Nat.le_refl _)) (by cases v.ownBlock <;> simp)
      have B1 := hideR (beyond Ba.out hb)
      clear hb HL e0 e1
      go_wp2_with (at_builtin; refine wpList_append_own _ rfl _ _ 34 rfl w.heap.size 9 i0 (.string ⟨#[]⟩) 1 16 Tryz.underlying34 hi hz0 hz1 hz2 rfl (by decide) _ K _ rfl (O1.alloc _) ⟨w1.heap.size, 0, none⟩ 1 1 [.string p] rfl rfl (cell_one_new _ _ _) (by simp [Value.oneCell']) (by unfold maxLen; omega) (by omega) (by have := B1.out.size; simp; omega) ?_; intro v' w2 hown hgrow hnil; obtain ⟨g', cap', rfl⟩ := ownsRow_succ hown)
      have B2 : Hid (Below w.heap.size w w2) := (beyond B1.out (single w1 (.cells #[.string p] 9))).grown hgrow (by have := B1.out.size; simp; omega) (fun k hk => own_ge O1 k hk)
      have O2 : Hid (w2.ownsRow w.heap.size 9 1 (.slice (some ⟨g', 0, none⟩) (K + 1) cap') (K + 1) ((txtB L (K + 1)).map Value.string)) := by
        show w2.ownsRow _ _ _ _ _ _
        rw [RN.out]
        exact hown
      clear hown hgrow hnil O1 B1 O B RN NV
      go_wp2_with fail
      go_roundw
      case rel => exact ⟨K + 1, _, by omega, rfl, by go_num, O2, ⟨(by intro h; cases h), (by intro h; omega)⟩, B2⟩
      case measure => simp [intOf]; omega
    · have eK : K = q := by omega
      have k0 : ¬ (K : Int) < (q : Int) := by omega
      by_cases z : K = 0
      · have hv := NV.out.2 z
        subst hv
        have JE : Hid ((⟨(Lib.join (txtL L q) [32]).toArray⟩ : ByteArray) = ⟨#[]⟩) := by show _ = _; rw [← eK, z]; rfl
        have H := hideR (Go.Proofs.Tryz.strings_Join_none none 0 ⟨#[32]⟩ wr)
        clear O eK z NV HS
        go_wp2_with fail
        refine H.out.mono ?_
        rintro e w1 ⟨rfl, rfl⟩
        go_wp2_with fail
        go_ret
        exact ⟨by rw [JE.out]; rfl, B.out⟩
      · have O2 := O.out
        obtain ⟨K1, hK1⟩ : ∃ K1, K = K1 + 1 := ⟨K - 1, by omega⟩
        obtain ⟨g', cap', hv⟩ : ∃ g' cap', v = .slice (some ⟨g', 0, none⟩) K cap' := by
          rw [hK1] at O2 ⊢
          exact ownsRow_succ O2
        subst hv
        have hc : K ≤ cap' := by
          rcases O2.2 with ⟨h, _⟩ | ⟨_, _, _, h, _, _, hcap, _⟩
          · cases h
          · cases h
            exact hcap
        have HJ : Hid (Calls Tryz.prog 22 #[.slice (some ⟨g', 0, none⟩) K cap', .string ⟨#[32]⟩] wr fun e w' => e = .returned (.string ⟨(Lib.join (txtL L q) [32]).toArray⟩) ∧ Below wr.heap.size wr w') := by
          have H := Go.Proofs.Tryz.strings_Join g' 0 cap' (txtB L K) ⟨#[32]⟩ wr (fun j x hx => by
            rw [Nat.zero_add]
            exact row_cell O2 j _ (by rw [List.getElem?_map, hx]; rfl)) (O2.lt g' rfl).2 (by rw [txtB_len]; omega) (by rw [txtB_len]; exact hc) (by rw [txtB_data, eK]; exact HS.out)
          rw [txtB_len, txtB_data, eK] at H
          rw [eK]
          exact H
        clear O O2 eK NV HS hK1 z hc
        go_wp2_with fail
        refine HJ.out.mono ?_
        rintro e w1 ⟨rfl, hb⟩
        have B2 := hideR (beyond B.out hb)
        clear hb HJ
        go_wp2_with fail
        go_ret
        exact ⟨rfl, B2.out⟩
theorem pprint_pt (ad : Option Addr) (q cap : Nat) (L : Rats) (w : World) (hq : L.q = q) (q1 : q ≤ 9223372036854775807) (hV : RatV w ad L) (hI : RatI L) (ht : Pow w) :
    Calls Tryz.prog 8 #[.slice ad q cap] w fun e w' => e = .returned (.string ⟨(prtL L).toArray⟩) ∧ Below w.heap.size w w' := by
  have HR := pright_any ad cap q L w hq q1 hV hI
  cases r : rightL L with
  | false =>
    rw [r] at HR
    have e : prtL L = [] := by unfold prtL; rw [r]; rfl
    rw [e]
    exact pprint_no ad q cap L w HR
  | true =>
    rw [r] at HR
    have e : prtL L = Lib.join (txtL L q) [32] := by unfold prtL; rw [if_pos r, hq]
    rw [e]
    exact pprint_yes ad q cap L w hq (by have := (right_at r).1; omega) hV hI ht HR
end Go.Proofs.YteifpplemohdcaaGreatDoor
