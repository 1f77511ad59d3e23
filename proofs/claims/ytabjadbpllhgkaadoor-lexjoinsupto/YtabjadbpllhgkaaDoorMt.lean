/-
  lex.Join.
-/
import Derived.Test.YtabjadbpllhgkaaDoorMp
import Derived.Test.YtabjadbpllhgkaaDoorSj
namespace Go.Proofs.YtabjadbpllhgkaaDoor
open Go.RowKit
set_option linter.unusedVariables false
theorem infoStr : (Tryd.prog.info? 9).map (fun i => (i.zero, i.size, i.bytes)) = some (some (.string ⟨#[]⟩), 1, 16) := by kernel_rfl
/-- Is the text of a token put among those that are joined? -/
def keeps (x : Item) : Bool := !(x.1 == 0) && !x.2.1.toList.isEmpty
def textsL (l : List Item) : List ByteArray := (l.filter keeps).map (·.2.1)
def joinB (l : List Item) : ByteArray := ⟨(Lib.join ((textsL l).map (·.data.toList)) [32]).toArray⟩
def sumL (l : List Item) : Nat := (l.map fun x => x.2.1.size + 1).sum
theorem texts_snoc (l : List Item) (x : Item) : textsL (l ++ [x]) = if keeps x = true then textsL l ++ [x.2.1] else textsL l := by
  unfold textsL
  rw [List.filter_append]
  split
  · rename_i h
    simp [h]
  · rename_i h
    simp [h]
theorem texts_len (l : List Item) : (textsL l).length ≤ l.length := by
  unfold textsL
  rw [List.length_map]
  exact List.length_filter_le _ _
theorem join_len (xs : List (List UInt8)) : (Lib.join xs [32]).length ≤ (xs.map fun x => x.length + 1).sum := by
  cases xs with
  | nil => simp [Lib.join, List.intercalate]
  | cons x r =>
    rw [Lib.join_cons]
    have : ∀ r : List (List UInt8), (Lib.joinTail [32] r).length = (r.map fun x => x.length + 1).sum := by
      intro r
      induction r with
      | nil => rfl
      | cons y r ih =>
        simp only [Lib.joinTail, List.map_cons, List.flatten_cons, List.length_append, List.length_cons, List.length_nil, List.sum_cons] at ih ⊢
        omega
    simp only [List.length_append, List.map_cons, List.sum_cons, this]
    omega
theorem texts_sum : ∀ l : List Item, (((textsL l).map (·.data.toList)).map fun x => x.length + 1).sum ≤ sumL l
  | [] => Nat.le_refl _
  | x :: l => by
    have ih := texts_sum l
    unfold textsL sumL at *
    rw [List.filter_cons]
    split
    · simp only [List.map_cons, List.sum_cons] at ih ⊢
      rw [len_of]
      omega
    · simp only [List.map_cons, List.sum_cons] at ih ⊢
      omega
theorem join_bound (l : List Item) : (Lib.join ((textsL l).map (·.data.toList)) [32]).length ≤ sumL l := Nat.le_trans (join_len _) (texts_sum l)
theorem keeps_no1 (x : Item) (h : x.1 = 0) : keeps x = false := by unfold keeps; rw [h]; rfl
theorem keeps_no2 (x : Item) (h : x.2.1.toList.isEmpty = true) : keeps x = false := by unfold keeps; rw [h]; simp
theorem keeps_yes (x : Item) (h : (x.1 == 0) = false) (g : x.2.1.toList.isEmpty = false) : keeps x = true := by unfold keeps; rw [h, g]; rfl
/-- Tokens in a slice. -/
def TokS (W : World) (v : Value) (l : List Item) : Prop := (l = [] ∧ ∃ ad cap, v = .slice ad 0 cap) ∨ (∃ g cap, v = .slice (some ⟨g, 0, none⟩) l.length cap ∧ RowL W g l)
theorem texts_take (l : List Item) (k : Nat) (h : k < l.length) : textsL (l.take (k + 1)) = if keeps (l[k]'h) = true then textsL (l.take k) ++ [(l[k]'h).2.1] else textsL (l.take k) := by
  rw [List.take_succ_eq_append_getElem h, texts_snoc]
set_option maxRecDepth 100000 in
theorem join_none (ad : Option Addr) (cap : Nat) (w : World) : Calls Tryd.prog 19 #[.slice ad 0 cap] w fun e w' => e = .returned (.string ⟨#[]⟩) ∧ w' = w := by
  have H := hideR (fun w => Tryd.strings_Join_none none 0 ⟨#[32]⟩ w)
  go_enter Tryd.func19, Tryd.ntmps19
  go_wp2_with fail
  go_loopw [3, 8] (fun v i wr => v = .slice none 0 0 ∧ i = .int .i64 0 ∧ wr = w) (fun _ _ _ => 0)
  case atStart => exact ⟨rfl, rfl, rfl⟩
  case round =>
    obtain ⟨rfl, rfl, rfl⟩ := hrel
    go_wp2_with fail
    refine (H.out _).mono ?_
    rintro e w1 ⟨rfl, rfl⟩
    go_wp2_with fail
    go_ret
    exact ⟨rfl, rfl⟩
theorem cells_one (w : World) (x : Value) (t : TypeId) : ∀ j u, [x][j]? = some u → (w.alloc (.cells #[x] t)).cell? ((⟨w.heap.size, 0, none⟩ : Addr).add j) = some u := cell_one_new w x t
set_option maxRecDepth 100000 in
set_option maxHeartbeats 2000000 in
theorem join_some (g cap : Nat) (L : List Item) (w : World) (hr : RowL w g L) (hL : L.length ≤ 1000000000000) (hsum : sumL L ≤ 140737488355328) : Calls Tryd.prog 19 #[.slice (some ⟨g, 0, none⟩) L.length cap] w fun e w' => e = .returned (.string (joinB L)) ∧ Below w.heap.size w w' := by
  obtain ⟨i0, hi, hz0, hz1, hz2⟩ := info_parts infoStr
  have HR := hideR hr
  have HS := hideR (join_bound L)
  have TT := hideR (texts_take L)
  have TL := hideR (fun k => texts_len (L.take k))
  clear hr
  have LB : (L.length : Int) ≤ 1000000000000 := by omega
  go_enter Tryd.func19, Tryd.ntmps19
  go_wp2_with fail
  go_loopw [3, 8] (fun v i wr => ∃ (u : Value) (k : Nat), k ≤ L.length ∧ v = u ∧ i = .int .i64 k ∧ Hid (wr.ownsRow w.heap.size 9 1 u (textsL (L.take k)).length ((textsL (L.take k)).map Value.string) ∧ (u = .slice none 0 0 ↔ textsL (L.take k) = []) ∧ Below w.heap.size w wr)) (fun _ i _ => L.length - (intOf i).toNat)
  case atStart => exact ⟨_, 0, Nat.zero_le _, rfl, rfl, World.ownsRow_nil _ _ _ _, by simp [textsL], Below.refl _ _⟩
  case round =>
    obtain ⟨v, k, hk, hv, rfl, I⟩ := hrel
    replace hv := hv.symm
    subst hv
    by_cases ck : k < L.length
    · have k0 : (0 : Int) ≤ (k : Int) := by omega
      have k1 : (k : Int) < (L.length : Int) := by omega
      have hb0 := I.out.2.2
      obtain ⟨c0, c1, c2, c3⟩ := HR.out.2 k ck
      have gl := HR.out.1
      replace c0 := (hb0.cell (p := ⟨g, _, none⟩) gl).trans c0
      replace c1 := (hb0.cell (p := ⟨g, _, none⟩) gl).trans c1
      replace c2 := (hb0.cell (p := ⟨g, _, none⟩) gl).trans c2
      replace c3 := (hb0.cell (p := ⟨g, _, none⟩) gl).trans c3
      have tt := hideR (TT.out k ck)
      have tl := hideR (TL.out k)
      have ky := hideR (fun h g => keeps_yes (L[k]'ck) h g)
      have kn1 := hideR (fun h => keeps_no1 (L[k]'ck) h)
      have kn2 := hideR (fun h => keeps_no2 (L[k]'ck) h)
      clear hb0 gl TT TL
      generalize keeps (L[k]'ck) = kp at *
      generalize L[k]'ck = x at *
      obtain ⟨x0, x1, x2, x3, x4⟩ := x
      simp only at c0 c1 c2 c3 tt ky kn1 kn2
      by_cases p : (x0 == 0) = true
      · have t2 : Hid (textsL (L.take (k + 1)) = textsL (L.take k)) := by show _ = _; rw [tt.out, kn1.out (by simpa using p)]; rfl
        obtain rfl : x0 = 0 := by simpa using p
        clear tt ky kn1 kn2 p
        go_wp2_with fail
        go_roundw
        case rel => exact ⟨v, k + 1, by omega, rfl, by go_num, by rw [t2.out]; exact ⟨I.out.1.alloc _, I.out.2.1, I.out.2.2.alloc I.out.2.2.size _⟩⟩
        case measure => simp [intOf]; omega
      · have p' : (x0 == 0) = false := by simpa using p
        have p2 : (x0 != 0) = true := by simpa using p
        by_cases q : x1.toList.isEmpty = true
        · have t2 : Hid (textsL (L.take (k + 1)) = textsL (L.take k)) := by show _ = _; rw [tt.out, kn2.out q]; rfl
          clear tt ky kn1 kn2 p
          go_wp2_with fail
          go_roundw
          case rel => exact ⟨v, k + 1, by omega, rfl, by go_num, by rw [t2.out]; exact ⟨I.out.1.alloc _, I.out.2.1, I.out.2.2.alloc I.out.2.2.size _⟩⟩
          case measure => simp [intOf]; omega
        · have q' : x1.toList.isEmpty = false := by simpa using q
          have t2 : Hid (textsL (L.take (k + 1)) = textsL (L.take k) ++ [x1]) := by show _ = _; rw [tt.out, ky.out p' q']; rfl
          clear tt ky kn1 kn2 p q
          go_upto_region 6 with (fail)
          have R1 := hideR (I.out.1.alloc (.cells #[.int .u8 x0, .string x1, .int .i64 x2, .int .i64 x3] 24))
          have B1 := hideR (I.out.2.2.alloc I.out.2.2.size (.cells #[.int .u8 x0, .string x1, .int .i64 x2, .int .i64 x3] 24))
          have d1 : (wr.alloc (.cells #[.int .u8 x0, .string x1, .int .i64 x2, .int .i64 x3] 24)).cell? ⟨wr.heap.size, 1, none⟩ = some (.string x1) := by simp [go_sem]
          have bl := hideR (show (textsL (L.take k)).length ≤ L.length by have := tl.out; rw [List.length_take] at this; omega)
          generalize wr.alloc (.cells #[.int .u8 x0, .string x1, .int .i64 x2, .int .i64 x3] 24) = W2 at *
          generalize wr.heap.size = B at *
          clear c0 c1 c2 c3 I tl
          go_wp2_with (at_builtin; refine wpList_append_own _ rfl _ _ 60 rfl w.heap.size 9 i0 (.string ⟨#[]⟩) 1 16 Tryd.underlying60 hi hz0 hz1 hz2 rfl (by decide) _ _ _ rfl (R1.out.alloc _) ⟨W2.heap.size, 0, none⟩ 1 1 [.string x1] rfl rfl (cells_one _ _ _) (by simp [Value.oneCell']) (by have := bl.out; simp only [maxLen]; omega) (by have := bl.out; omega) (by have := B1.out.size; simp; omega) ?_; intro v' w3 hown' hgrow hnil; obtain ⟨g', cap', rfl⟩ := ownsRow_succ hown'; have OW := hideR hown'; have GR := hideR hgrow; clear hown' hgrow hnil)
          have hbw := ((B1.out.alloc B1.out.size _).grown GR.out (by have := B1.out.size; simp; omega) (fun k e => (R1.out.lt k e).1))
          go_roundw
          case rel => exact ⟨_, k + 1, by omega, rfl, by go_num, by rw [t2.out, List.length_append, List.map_append]; exact ⟨OW.out, by simp, hbw⟩⟩
          case measure => simp [intOf]; omega
    · obtain rfl : k = L.length := by omega
      have k1 : ¬ (L.length : Int) < (L.length : Int) := by omega
      obtain ⟨hrow, hnil, hbw⟩ := I.out
      rw [List.take_length] at hrow hnil
      have HB := hideR hbw
      have JB : Hid (joinB L = ⟨(Lib.join ((textsL L).map (·.data.toList)) [32]).toArray⟩) := rfl
      have TL' := TL.out L.length
      rw [List.take_length] at TL'
      clear I TT TL hbw HR
      cases e : textsL L with
      | nil =>
        have hv := hnil.2 e
        subst hv
        have JE : Hid (joinB L = ⟨#[]⟩) := by show _ = _; unfold joinB; rw [e]; rfl
        have H := hideR (Tryd.strings_Join_none none 0 ⟨#[32]⟩ wr)
        clear hrow hnil JB HS e TL'
        go_wp2_with fail
        refine H.out.mono ?_
        rintro e w1 ⟨rfl, rfl⟩
        go_wp2_with fail
        go_ret
        exact ⟨by rw [JE.out]; rfl, HB.out⟩
      | cons y ys =>
        have ln : (textsL L).length = ys.length + 1 := by rw [e]; rfl
        have hrow' := hrow
        rw [ln] at hrow'
        obtain ⟨g', cap', rfl⟩ := ownsRow_succ hrow'
        have hc : ys.length + 1 ≤ cap' := by
          rcases hrow'.2 with ⟨h, _⟩ | ⟨_, _, _, h, _, _, hcap, _⟩
          · cases h
          · cases h
            exact hcap
        have H := hideR (Tryd.strings_Join g' 0 cap' (textsL L) ⟨#[32]⟩ wr (fun j x hx => by
          rw [Nat.zero_add]
          exact row_cell hrow j _ (by rw [List.getElem?_map, hx]; rfl)) (hrow.lt g' rfl).2 (by omega) (by omega) (Nat.le_trans HS.out hsum))
        rw [ln] at H
        clear hrow hrow' hnil HS e TL' ln
        go_wp2_with fail
        refine H.out.mono ?_
        rintro e w1 ⟨rfl, hb⟩
        go_wp2_with fail
        go_ret
        exact ⟨by rw [JB.out]; rfl, beyond HB.out hb⟩
end Go.Proofs.YtabjadbpllhgkaaDoor
