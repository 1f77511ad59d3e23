/-
  The document's All.
-/
import Derived.Test.YtabjadbpllhgkaaDoorMj
import Derived.Test.YtabjadbpllhgkaaDoorMd
namespace Go.Proofs.YtabjadbpllhgkaaDoor
open Go.RowKit
set_option linter.unusedVariables false
theorem infoX : (Tryd.prog.info? 29).map (fun i => (i.zero, i.size, i.bytes)) = some (some (.agg #[.int .i64 0, .string ⟨#[]⟩, .int .i64 0, .int .i64 0]), 4, 40) := by kernel_rfl
abbrev itemCX (x : Item) : List Value := [.int .i64 x.1, .string x.2.1, .int .i64 x.2.2.1, .int .i64 x.2.2.2.1]
def cellsX (l : List Item) : List Value := l.flatMap itemCX
theorem cellsX_snoc (l : List Item) (x : Item) : cellsX (l ++ [x]) = cellsX l ++ itemCX x := by simp [cellsX]
/-- What the document's All answers. -/
def XAllR (s : ByteArray) (w : World) (e : Ending) (W : World) : Prop :=
  ((∃ x, (itemsL s).getLast? = some x ∧ ¬ x.2.2.2.2 = 0 ∧ e = .returned (.tuple #[.slice none 0 0, .int .i64 x.2.2.2.2, .int .i64 x.2.2.2.1])) ∨
   (∃ v, (∀ x ∈ itemsL s, x.2.2.2.2 = 0) ∧ e = .returned (.tuple #[v, .int .i64 0, .int .i64 0]) ∧ W.ownsRow w.heap.size 29 4 v (itemsL s).length (cellsX (itemsL s)))) ∧ Below w.heap.size w W
theorem row_below {W W' : World} {base : Nat} {e : TypeId} {size n : Nat} {v : Value} {xs : List Value} (h : W.ownsRow base e size v n xs) (hb : Below W.heap.size W W') : W'.ownsRow base e size v n xs :=
  h.kept (grown_below hb (Nat.le_refl _)) (by cases hv : v.ownBlock <;> simp)
set_option maxRecDepth 100000 in
set_option maxHeartbeats 2000000 in
theorem xall_any (s : ByteArray) (hs : s.size ≤ 1000000000000) (w : World) : Calls Tryd.prog 14 #[.string s] w fun e W' => XAllR s w e W' := by
  obtain ⟨i0, hi, hz0, hz1, hz2⟩ := info_parts infoX
  have NX := hideR (fun (a : Nat) (w : World) (h : a ≤ s.size) => xnext_in s a w h (by omega))
  go_enter Tryd.func14, Tryd.ntmps14
  go_wp2_with fail
  go_loopw [5, 6] (fun l i wr => ∃ (v : Value) (a f : Nat) (pre : List Item), l = v ∧ i = .int .i64 a ∧ a ≤ s.size ∧ Hid (itemsL s = pre ++ itemsG s f a ∧ s.size + 1 ≤ f + a ∧ pre.length + f ≤ s.size + 1 ∧ (∀ x ∈ pre, x.2.2.2.2 = 0) ∧ wr.ownsRow w.heap.size 29 4 v pre.length (cellsX pre) ∧ Below w.heap.size w wr)) (fun _ i _ => s.size + 1 - (intOf i).toNat)
  case atStart => exact ⟨_, 0, s.size + 1, [], rfl, rfl, Nat.zero_le _, rfl, by omega, by simp, by simp, World.ownsRow_nil _ _ _ _, Below.refl _ _⟩
  case round =>
    obtain ⟨v, a, f, pre, hv, rfl, ha, E⟩ := hrel
    replace hv := hv.symm
    subst hv
    obtain ⟨e1, e2, e3, e4, hrow, hB⟩ := E.out
    cases f with
    | zero => omega
    | succ f =>
    have NC := hideR (NX.out a wr ha)
    have L0 := tok_len s.data.toList a (by rw [len_of]; exact ha)
    rw [len_of] at L0
    have LP := hideR (tok_pos s.data.toList a)
    rw [itemsG] at e1
    unfold nextXV at NC
    have BG := beg_le s.data.toList a (by rw [len_of]; exact ha)
    generalize tokL s.data.toList a = r at *
    generalize begL s.data.toList a = b at *
    obtain ⟨r0, r1, r2, r3⟩ := r
    simp only at e1 L0 LP
    clear E NX
    by_cases c : r0 = 0
    · subst c
      rw [if_pos rfl] at e1
      unfold nextXW at NC
      simp only [if_pos] at NC
      have E1 := hideR e1
      have E4 := hideR e4
      have HR := hideR hrow
      have HB := hideR hB
      clear e1 e4 hrow hB
      go_wp2_with fail
      refine NC.out.mono ?_
      rintro e w1 ⟨rfl, hb⟩
      clear NC
      have hb2 : Below wr.heap.size wr (w1.alloc (.cells #[.int .i64 r1, .string (s.extract b (b + r2)), .int .i64 r3, .int .i64 b] 29)) := beyond hb (Below.alloc (Below.refl _ _) (Nat.le_refl _) _)
      have hr2 := row_below HR.out hb2
      have hB2 := HB.out.trans (hb2.mono HB.out.size)
      have C0 : (w1.alloc (.cells #[.int .i64 r1, .string (s.extract b (b + r2)), .int .i64 r3, .int .i64 b] 29)).cell? ⟨w1.heap.size, 0, none⟩ = some (.int .i64 r1) := by simp [go_sem]
      have C1 : (w1.alloc (.cells #[.int .i64 r1, .string (s.extract b (b + r2)), .int .i64 r3, .int .i64 b] 29)).cell? ⟨w1.heap.size, 1, none⟩ = some (.string (s.extract b (b + r2))) := by simp [go_sem]
      have C2 : (w1.alloc (.cells #[.int .i64 r1, .string (s.extract b (b + r2)), .int .i64 r3, .int .i64 b] 29)).cell? ⟨w1.heap.size, 2, none⟩ = some (.int .i64 r3) := by simp [go_sem]
      have C3 : (w1.alloc (.cells #[.int .i64 r1, .string (s.extract b (b + r2)), .int .i64 r3, .int .i64 b] 29)).cell? ⟨w1.heap.size, 3, none⟩ = some (.int .i64 b) := by simp [go_sem]
      have lt2 : w1.heap.size < (w1.alloc (.cells #[.int .i64 r1, .string (s.extract b (b + r2)), .int .i64 r3, .int .i64 b] 29)).heap.size := by simp
      have hb3 : w.heap.size ≤ w1.heap.size := Nat.le_trans HB.out.size hb.size
      have nb : some w1.heap.size ≠ v.ownBlock := fun q => by
        have := (HR.out.lt _ q.symm).2
        have := hb.size
        omega
      go_upto_region 6 with (fail)
      generalize w1.alloc (.cells #[.int .i64 r1, .string (s.extract b (b + r2)), .int .i64 r3, .int .i64 b] 29) = W2 at *
      generalize w1.heap.size = B at *
      clear hb hb2 HR HB
      have HR2 := hideR hr2
      have NB := hideR nb
      have HB2 := hideR hB2
      have LT2 := hideR lt2
      have BN := hideR (hb3)
      clear hr2 nb hB2 lt2 hb3
      generalize hT : s.extract b (b + r2) = T at *
      have HT := hideR hT
      clear hT
      have hpl := hideR (show pre.length * 40 + 40 ≤ 140737488355328 by omega)
      go_wp2_with (at_builtin; refine wpList_append_own _ rfl _ _ 38 rfl w.heap.size 29 i0 (.agg #[.int .i64 0, .string ⟨#[]⟩, .int .i64 0, .int .i64 0]) 4 40 Tryd.underlying38 hi hz0 hz1 hz2 rfl (by decide) _ _ _ rfl (HR2.out.alloc _) ⟨W2.heap.size, 0, none⟩ 1 1 [.int .i64 r1, .string T, .int .i64 r3, .int .i64 b] rfl rfl (cell_four _ _ _ _ _ _) (by simp [Value.oneCell']) (by have := hpl.out; simp only [maxLen]; omega) (by have := hpl.out; omega) (by have := HB2.out.size; simp; omega) ?_; intro v' w3 hown' hgrow _; obtain ⟨g', cap', rfl⟩ := ownsRow_succ hown'; have OW := hideR hown'; have GR := hideR hgrow; clear hown' hgrow; have D0 := GR.out.cell (a := ⟨B, 0, none⟩) (((Below.alloc (Below.refl _ _) (Nat.le_refl _) _).cell (p := ⟨B, 0, none⟩) LT2.out).trans C0) NB.out; clear C0 C1 C2 C3)
      · have c : r1 = 0 := by simpa using (by assumption : (r1 == 0) = true)
        have L := E1.out
        rw [if_pos c] at L
        have hbw := ((HB2.out.alloc HB2.out.size _).grown GR.out (by have := HB2.out.size; simp; omega) (fun k e => (HR2.out.lt k e).1))
        refine bodyPost_ret (v := .tuple #[.slice (some ⟨g', 0, none⟩) (pre.length + 1) cap', .int .i64 0, .int .i64 0]) (by simp [results, Tryd.results14, go_sem]) rfl ⟨.inr ⟨_, ?_, rfl, ?_⟩, hbw⟩
        · rw [L]
          intro x hx
          rcases List.mem_append.1 hx with h | h
          · exact E4.out x h
          · rw [List.mem_singleton.1 h]
        · rw [L, cellsX_snoc, List.length_append]
          exact OW.out
      · have c : ¬ r1 = 0 := by simpa using (by assumption : (r1 == 0) = false)
        have L := E1.out
        rw [if_neg c] at L
        have pos := LP.out (by simp) c
        have hbw := ((HB2.out.alloc HB2.out.size _).grown GR.out (by have := HB2.out.size; simp; omega) (fun k e => (HR2.out.lt k e).1))
        go_roundw
        case rel =>
          refine ⟨_, b + r2, f, pre ++ [(r1, T, r3, (b : Int), 0)], rfl, by go_num, L0, ⟨?_, by omega, by simp; omega, ?_, ?_, hbw⟩⟩
          · rw [L]; simp
          · intro x hx
            rcases List.mem_append.1 hx with h | h
            · exact E4.out x h
            · rw [List.mem_singleton.1 h]
          · rw [cellsX_snoc, List.length_append]
            exact OW.out
        case measure => simp [intOf]; omega
    · rw [if_neg c] at e1
      unfold nextXW at NC
      simp only [if_neg c] at NC
      have c' : (r0 == 0) = false := by simpa using c
      have LA : Hid ((itemsL s).getLast? = some (0, ⟨#[]⟩, 0, (b : Int), r0)) := by show _ = _; rw [e1, List.getLast?_append]; rfl
      have HB := hideR hB
      clear e1 e4 hrow hB
      go_wp2_with fail
      refine NC.out.mono ?_
      rintro e w1 ⟨rfl, hb⟩
      clear NC
      have hb2 : Below wr.heap.size wr (w1.alloc (.cells #[.int .i64 0, .string ⟨#[]⟩, .int .i64 0, .int .i64 0] 29)) := beyond hb (Below.alloc (Below.refl _ _) (Nat.le_refl _) _)
      go_wp2_with fail
      refine bodyPost_ret (v := .tuple #[.slice none 0 0, .int .i64 r0, .int .i64 b]) (by simp [results, Tryd.results14, go_sem]) rfl ⟨.inl ⟨_, LA.out, c, rfl⟩, HB.out.trans (hb2.mono HB.out.size)⟩
end Go.Proofs.YtabjadbpllhgkaaDoor
