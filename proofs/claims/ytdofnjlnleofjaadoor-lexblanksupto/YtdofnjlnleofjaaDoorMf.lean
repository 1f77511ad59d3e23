/-
  lex.tokens: its walk, for every loop that ranges over it.
-/
import Derived.Test.YtdofnjlnleofjaaDoorMe
namespace Go.Proofs.YtdofnjlnleofjaaDoor
open Go.RowKit Go.Shelf
set_option linter.unusedVariables false
attribute [local go_sem] Oper.semAt_some
theorem grown_below {B : Nat} {W W' : World} (h : Below B W W') (hB : W.heap.size ≤ B) : W.grownBy W' none := ⟨h.os, h.tape, h.output, h.size, fun k hk _ => h.block k (by omega)⟩
/-- What the walk knows of memory between two rounds. -/
def TokI (s : ByteArray) (Bs Bl n1 : Nat) (wr : World) : Prop := Boxed wr Bs 9 (.string s) ∧ (∀ g, ownAt Bl wr = some g → n1 ≤ g ∧ g < wr.heap.size) ∧ n1 ≤ wr.heap.size
theorem TokI.later {s : ByteArray} {Bs Bl n1 : Nat} {wr w1 : World} (h : TokI s Bs Bl n1 wr) (hb : Below wr.heap.size wr w1) (b1 : Bl < n1) : TokI s Bs Bl n1 w1 := by
  have e : ownAt Bl w1 = ownAt Bl wr := ownAt_of (hb.cell (p := ⟨Bl, 0, none⟩) (Nat.lt_of_lt_of_le b1 h.2.2))
  refine ⟨(hb.block Bs h.1.lt).trans h.1, fun g q => ?_, Nat.le_trans h.2.2 hb.size⟩
  rw [e] at q
  have := h.2.1 g q
  have := hb.size
  omega
theorem TokI.round {s : ByteArray} {Bs Bl n1 n₀ : Nat} {W W' : World} (h : TokI s Bs Bl n1 W) (k : KeepT n₀ Bl W W') (b0 : Bs < n1) (b2 : Bs ≠ Bl) : TokI s Bs Bl n1 W' := by
  refine ⟨k.same Bs _ h.1 rfl b2 (fun e => ?_), fun g q => ?_, Nat.le_trans h.2.2 k.below.size⟩
  · have := (h.2.1 Bs e.symm).1
    omega
  · refine ⟨?_, k.owns (fun g e => (h.2.1 g e).2) g q⟩
    rcases k.new with e | ⟨g', e, hg⟩
    · rw [e] at q
      exact (h.2.1 g q).1
    · rw [e] at q
      injection q with q
      have := h.2.2
      omega
/-- The iterator's own token lies as it lay. -/
theorem TokI.tok {s : ByteArray} {Bs Bl n1 n₀ : Nat} {wr w1 W' : World} {o : Obj} (h : TokI s Bs Bl n1 wr) (hb : Below wr.heap.size wr w1) (b1 : Bl < n1) (k : KeepT n₀ Bl (w1.alloc o) W') (ho : o.isCells = true) : W'.heap[w1.heap.size]? = some o := by
  have hb2 : Below wr.heap.size wr (w1.alloc o) := beyond hb (Below.alloc (Below.refl _ _) (Nat.le_refl _) _)
  have e : ownAt Bl (w1.alloc o) = ownAt Bl wr := ownAt_of (hb2.cell (p := ⟨Bl, 0, none⟩) (Nat.lt_of_lt_of_le b1 h.2.2))
  refine k.same _ _ (World.alloc_heap_new w1 o) ho ?_ ?_
  · have := hb.size; have := h.2.2; omega
  · rw [e]
    intro q
    have := (h.2.1 _ q.symm).2
    have := hb.size
    omega
def leftM (n : Nat) : Value → Value → Nat
  | i, .bool true => n + 2 - (intOf i).toNat
  | _, _ => 0
theorem left_yes (n : Nat) (i : Value) : leftM n i (.bool true) = n + 2 - (intOf i).toNat := rfl
theorem left_no (n : Nat) (i : Value) : leftM n i (.bool false) = 0 := rfl
theorem tokens_in (n : Nat) (s : ByteArray) (w : World) : CallsIn Fence.wide n Tryd.prog 6 #[.string s] w fun e w' => e = .returned (.func (.func 8) #[] #[.pointer (some ⟨w.heap.size, 0, none⟩)]) ∧ w' = w.alloc (.cells #[.string s] 9) := by
  refine callsIn_wide.2 ?_
  go_enter Tryd.func6, Tryd.ntmps6
  go_wp2
  go_ret
  exact ⟨rfl, rfl⟩
set_option maxRecDepth 100000 in
set_option maxHeartbeats 2000000 in
theorem tokens1_in (n : Nat) (hn : 1 ≤ n) (s : ByteArray) (hs : s.size ≤ 140737488355328) (l Bs Bl n₀ n1 : Nat) (J Jx : List Item → World → Prop)
    (hY : ∀ pre x W, J pre W → pre.length < s.size + 1 → YieldAt Fence.wide (n - 1) Tryd.prog l (itemVs x) W fun e W' =>
      (e = .returned (.bool true) ∧ J (pre ++ [x]) W' ∧ KeepT n₀ Bl W W') ∨ (e = .returned (.bool false) ∧ Jx (pre ++ [x]) W'))
    (W : World) (hJ : AbidesFrom W.heap.size J) (hBs : Boxed W Bs 9 (.string s)) (b0 : Bs < n1) (b1 : Bl < n1) (b2 : Bs ≠ Bl) (hn1 : n1 ≤ W.heap.size) (ho : ownAt Bl W = none) (h0 : J [] W) :
    CallsIn Fence.wide n Tryd.prog 8 #[.func (.yield l) #[] #[], .pointer (some ⟨Bs, 0, none⟩)] W fun e W' => (∃ v, e = .returned v) ∧
      ((∃ ys, ys = itemsL s ∧ J ys W') ∨ (∃ pre, pre <+: itemsL s ∧ Jx pre W')) := by
  have NX := hideR (fun (a : Nat) (w : World) (h : a ≤ s.size) => next_in s a w h hs)
  refine callsIn_of_wp Tryd.func8 rfl trivial ?_ rfl
  simp only [Tryd.ntmps8, List.size_toArray, List.length_cons, List.length_nil, Nat.reduceAdd, Nat.reduceSub, Array.replicate_succ, Array.replicate_zero, List.push_toArray, List.append_toArray, List.nil_append, List.cons_append]
  gi_wp2
  gi_loopw [3, 4] (fun i m wr => ∃ (a f : Nat) (pre : List Item), i = .int .i64 a ∧ a ≤ s.size ∧
      ((m = .bool true ∧ Hid (TokI s Bs Bl n1 wr) ∧ Hid (itemsL s = pre ++ itemsG s f a ∧ s.size + 1 ≤ f + a ∧ pre.length + f ≤ s.size + 1 ∧ J pre wr)) ∨ (m = .bool false ∧ Hid ((itemsL s = pre ∧ J pre wr) ∨ (pre <+: itemsL s ∧ Jx pre wr)))))
    (fun i m _ => leftM s.size i m)
  case atStart => exact ⟨0, s.size + 1, [], rfl, Nat.zero_le _, .inl ⟨rfl, ⟨hBs, fun g e => (by rw [ho] at e; cases e), hn1⟩, ⟨rfl, by omega, by simp, h0⟩⟩⟩
  case round =>
    obtain ⟨a, f, pre, rfl, ha, (⟨rfl, TI, E⟩ | ⟨rfl, E⟩)⟩ := hrel
    · obtain ⟨e1, e2, e3, hj⟩ := E.out
      have bx := hideR TI.out.1.cell
      have bx1 := TI.out.1.cell
      cases f with
      | zero => omega
      | succ f =>
      have NC := hideR (NX.out a wr ha)
      have L0 := tok_len s.data.toList a (by rw [len_of]; exact ha)
      rw [len_of] at L0
      have LP := hideR (tok_pos s.data.toList a)
      rw [itemsG] at e1
      unfold nextV at NC
      have BG := beg_le s.data.toList a (by rw [len_of]; exact ha)
      generalize tokL s.data.toList a = r at *
      generalize begL s.data.toList a = b at *
      obtain ⟨r0, r1, r2, r3⟩ := r
      simp only at e1 L0 LP
      clear E NX h0 ho hBs
      by_cases c : r0 = 0
      · subst c
        rw [if_pos rfl] at e1
        rw [nextW_ok] at NC
        clear bx
        gi_wp2
        refine ⟨trivial, (callsIn_wide.2 NC.out).mono ?_⟩
        rintro e w1 ⟨rfl, hb⟩
        clear NC bx1
        have hj2 : J pre (w1.alloc (.cells #[.int .u8 r1, .string (s.extract b (b + r2)), .int .i64 r3, .int .i64 b] 30)) := hJ _ _ _ none hj (grown_below (beyond hb (Below.alloc (Below.refl _ _) (Nat.le_refl _) _)) (Nat.le_refl _)) (by simp)
        obtain ⟨fn, tmps, assign, body, hy, hR⟩ := hY pre (r1, s.extract b (b + r2), r3, (b : Int), 0) _ hj2 (by omega)
        have HY := hideR hY
        clear hY
        gi_wp2
        refine hR.mono ?_
        rintro e W3 (⟨rfl, hJ3, hk3⟩ | ⟨rfl, hJx3⟩)
        · have TK := TI.out.tok hb b1 hk3 rfl
          have TJ : Hid (TokI s Bs Bl n1 W3) := (TI.out.later (beyond hb (Below.alloc (Below.refl _ _) (Nat.le_refl _) _)) b1).round hk3 b0 b2
          have C0 : W3.cell? ⟨w1.heap.size, 0, none⟩ = some (.int .u8 r1) := by simp [World.cell?, TK]
          clear TK TI hk3
          by_cases c : r1 = 0
          · subst c
            rw [if_pos rfl] at e1
            have E1 := hideR e1
            clear e1
            gi_wp2
            go_roundw
            case rel => exact ⟨b + r2, f, pre ++ [(0, s.extract b (b + r2), r3, (b : Int), 0)], by go_num, L0, .inr ⟨rfl, .inl ⟨E1.out, hJ3⟩⟩⟩
            case measure => rw [left_no, left_yes]; simp [intOf]; omega
          · have c' : (r1 == 0) = false := by simpa using c
            have pos := LP.out (by simp) c
            have c2 : (r1 != 0) = true := by simpa using c
            rw [if_neg c] at e1
            have E1 := hideR e1
            clear e1 c
            gi_wp2
            go_roundw
            case rel => exact ⟨b + r2, f, pre ++ [(r1, s.extract b (b + r2), r3, (b : Int), 0)], by go_num, L0, .inl ⟨rfl, TJ, by rw [E1.out]; simp, by omega, by simp; omega, hJ3⟩⟩
            case measure => rw [left_yes, left_yes]; simp [intOf]; omega
        · have E1 := hideR e1
          clear e1
          gi_wp2
          go_roundw
          case rel => exact ⟨b + r2, f, pre ++ [(r1, s.extract b (b + r2), r3, (b : Int), 0)], by go_num, L0, .inr ⟨rfl, .inr ⟨by rw [E1.out]; simp, hJx3⟩⟩⟩
          case measure => rw [left_no, left_yes]; simp [intOf]; omega
      · rw [if_neg c] at e1
        rw [nextW_no _ _ _ _ _ _ c] at NC
        have c' : (r0 == 0) = false := by simpa using c
        clear bx
        gi_wp2
        refine ⟨trivial, (callsIn_wide.2 NC.out).mono ?_⟩
        rintro e w1 ⟨rfl, hb⟩
        clear NC bx1
        have hj2 : J pre (w1.alloc (.cells #[.int .u8 0, .string ⟨#[]⟩, .int .i64 0, .int .i64 0] 30)) := hJ _ _ _ none hj (grown_below (beyond hb (Below.alloc (Below.refl _ _) (Nat.le_refl _) _)) (Nat.le_refl _)) (by simp)
        obtain ⟨fn, tmps, assign, body, hy, hR⟩ := hY pre (0, ⟨#[]⟩, 0, (b : Int), r0) _ hj2 (by omega)
        have HY := hideR hY
        have E1 := hideR e1
        clear hY e1 c
        gi_wp2
        refine hR.mono ?_
        rintro e W3 (⟨rfl, hJ3, hk3⟩ | ⟨rfl, hJx3⟩)
        · gi_wp2
          refine bodyPost_ret (results_none rfl _ _ _) rfl ?_
          exact ⟨⟨_, rfl⟩, .inl ⟨_, E1.out.symm, hJ3⟩⟩
        · gi_wp2
          refine bodyPost_ret (results_none rfl _ _ _) rfl ?_
          exact ⟨⟨_, rfl⟩, .inr ⟨_, by rw [E1.out]; exact List.prefix_refl _, hJx3⟩⟩
    · gi_wp2
      go_end0
      refine ⟨⟨_, rfl⟩, ?_⟩
      rcases E.out with ⟨q1, q2⟩ | ⟨q1, q2⟩
      · exact .inl ⟨pre, q1.symm, q2⟩
      · exact .inr ⟨pre, q1, q2⟩
end Go.Proofs.YtdofnjlnleofjaaDoor
