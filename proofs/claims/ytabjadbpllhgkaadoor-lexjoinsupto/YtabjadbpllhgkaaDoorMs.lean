/-
  The statement on the places of tokens: its walk.
-/
import Derived.Test.YtabjadbpllhgkaaDoorMr
namespace Go.Proofs.YtabjadbpllhgkaaDoor
open Go.RowKit
set_option linter.unusedVariables false
/-- How far the walk has come: k tokens, up to the place a. -/
def PlaceI (s : ByteArray) (L : List Item) (k a : Nat) : Prop := a ≤ s.size ∧ (∃ f, s.size + 1 ≤ f + a ∧ ((k < L.length ∧ L.drop k = itemsG s f a) ∨ (k = L.length ∧ a = s.size)))
theorem all_good (s : ByteArray) (hs : s.size ≤ 1000000000000) (q : ∀ x ∈ itemsL s, x.2.2.2.2 = 0) (w : World) : Calls Tryd.prog 13 #[.string s] w fun x W => ∃ g cap, x = .returned (.tuple #[.slice (some ⟨g, 0, none⟩) (itemsL s).length cap, .int .i64 0, .int .i64 0]) ∧ RowL W g (itemsL s) ∧ Below w.heap.size w W := by
  obtain ⟨k, hk⟩ := items_some s
  refine (all_any s hs w).mono ?_
  rintro e W ⟨⟨x, h1, h2, -⟩ | ⟨v, -, rfl, hr⟩, hb⟩
  · exact absurd (q x (List.mem_of_getLast? h1)) h2
  · have hr' := hr
    rw [hk] at hr'
    obtain ⟨g, cap, rfl⟩ := ownsRow_succ hr'
    exact ⟨g, cap, by rw [hk], rowL_of hr, hb⟩
theorem all_bad (s : ByteArray) (hs : s.size ≤ 1000000000000) (q : ¬ ∀ x ∈ itemsL s, x.2.2.2.2 = 0) : ∃ e a : Int, ¬ e = 0 ∧ ∀ w, Calls Tryd.prog 13 #[.string s] w fun x W => x = .returned (.tuple #[.slice none 0 0, .int .i64 e, .int .i64 a]) ∧ Below w.heap.size w W := by
  obtain ⟨x, hm, z⟩ : ∃ x, x ∈ itemsL s ∧ ¬ x.2.2.2.2 = 0 := by
    apply Classical.byContradiction
    intro h
    exact q fun x hx => Classical.byContradiction fun g => h ⟨x, hx, g⟩
  have hx := items_err s _ _ x hm z
  refine ⟨x.2.2.2.2, x.2.2.2.1, z, fun w => (all_any s hs w).mono ?_⟩
  rintro e W ⟨⟨y, h1, h2, h3⟩ | ⟨v, h, -, -⟩, hb⟩
  · rw [show (itemsL s).getLast? = some x from hx] at h1
    injection h1 with h1
    subst h1
    exact ⟨h3, hb⟩
  · exact absurd h q
theorem place_step (s : ByteArray) (k a : Nat) (q : ∀ x ∈ itemsL s, x.2.2.2.2 = 0) (h : PlaceI s (itemsL s) k a) (ck : k < (itemsL s).length) :
    (tokL s.data.toList a).1 = 0 ∧ (itemsL s)[k]'ck = ((tokL s.data.toList a).2.1, s.extract (begL s.data.toList a) (begL s.data.toList a + (tokL s.data.toList a).2.2.1), (tokL s.data.toList a).2.2.2, (begL s.data.toList a : Int), 0) ∧ PlaceI s (itemsL s) (k + 1) (begL s.data.toList a + (tokL s.data.toList a).2.2.1) := by
  obtain ⟨ha, f, hf, ⟨-, h⟩ | ⟨h, -⟩⟩ := h
  · cases f with
    | zero => omega
    | succ f =>
      have q' : ∀ x ∈ itemsG s (f + 1) a, x.2.2.2.2 = 0 := fun x hx => q x (List.mem_of_mem_drop (h ▸ hx))
      obtain ⟨e0, e1⟩ := items_step s f a q'
      have t := tok_len s.data.toList a (by rw [len_of]; exact ha)
      rw [len_of] at t
      have d := h
      rw [List.drop_eq_getElem_cons ck, e1] at d
      injection d with d1 d2
      refine ⟨e0, d1, t, ?_⟩
      by_cases c : (tokL s.data.toList a).2.1 = 0
      · rw [if_pos c] at d2
        have b := end_at s.data.toList a (by rw [len_of]; exact ha) e0 c
        rw [len_of] at b
        refine ⟨s.size + 1, by omega, .inr ⟨?_, by omega⟩⟩
        rw [List.drop_eq_nil_iff] at d2
        omega
      · rw [if_neg c] at d2
        have p := tok_pos s.data.toList a e0 c
        obtain ⟨b0, b1⟩ := beg_le s.data.toList a (by rw [len_of]; exact ha)
        refine ⟨f, by omega, .inl ⟨?_, d2⟩⟩
        apply Classical.byContradiction
        intro g
        have e : List.drop (k + 1) (itemsL s) = [] := by rw [List.drop_eq_nil_iff]; omega
        rw [e] at d2
        have hn : itemsG s f (begL s.data.toList a + (tokL s.data.toList a).2.2.1) = [] := d2.symm
        cases f with
        | zero => omega
        | succ f =>
          rw [itemsG] at hn
          split at hn <;> cases hn
  · omega
namespace lexPlaces
set_option maxRecDepth 100000 in
set_option maxHeartbeats 2000000 in
theorem walk (s : ByteArray) (_ : s.size ≤ maxLen) (w : World) (hk : Kept w) (hs0 : s.size ≤ 140737488355328) (hs : s.size ≤ 1048576) :
    Calls Tryd.prog 8 #[.string s] w fun e w' => e = .returned (.bool true) ∧ Below w.heap.size w w' := by
  have HK := hideR hk
  clear hk
  by_cases q : ¬ ∀ x ∈ itemsL s, x.2.2.2.2 = 0
  · obtain ⟨e, a, he, hA⟩ := all_bad s (by omega) q
    have N1 := hideR hA
    have he' : (e == 0) = false := by simpa using he
    clear hA q
    go_enter Tryd.func8, Tryd.ntmps8
    go_wp2_with fail
    refine (N1.out _).mono ?_
    rintro e1 w1 ⟨rfl, hb1⟩
    have HK2 := hideR (kept_later HK.out hb1)
    go_wp2_with fail
    refine (live_any _ HK2.out).mono ?_
    rintro e3 w3 ⟨rfl, hb3⟩
    have hb := beyond hb1 hb3
    clear hb1 hb3 HK HK2
    go_wp2_with fail
    go_ret
    exact ⟨rfl, hb⟩
  · have q := Classical.not_not.1 q
    have N1 := hideR (all_good s (by omega) q w)
    have NX := hideR (fun (a : Nat) (w : World) (h : a ≤ s.size) => next_in s a w h (by omega))
    have NB := hideR (fun (a : Nat) (w : World) (h : a ≤ s.size) => blank_next s a h (by omega) w)
    have PS := hideR (fun (k a : Nat) => place_step s k a q)
    have LN := items_count s (s.size + 1) 0
    change (itemsL s).length ≤ s.size + 1 at LN
    have LL : Hid (∃ x, (itemsL s).getLast? = some x ∧ x.1 = 0) := items_last s _ _ (by omega) (Nat.zero_le _) q
    have P0 : Hid (PlaceI s (itemsL s) 0 0) := by
      obtain ⟨k, hk⟩ := items_some s
      exact ⟨Nat.zero_le _, s.size + 1, by omega, .inl ⟨by omega, rfl⟩⟩
    clear q
    generalize itemsL s = L at *
    have LB : (L.length : Int) ≤ 1048577 := by omega
    go_enter Tryd.func8, Tryd.ntmps8
    go_wp2_with fail
    refine N1.out.mono ?_
    rintro e1 w1 ⟨g, cap, rfl, R1, hb1⟩
    have RL := hideR R1
    have HB := hideR hb1
    clear R1 hb1 N1
    go_wp2_with fail
    go_loopw [6, 7] (fun i j wr => ∃ k a : Nat, k ≤ L.length ∧ a ≤ s.size ∧ i = .int .i64 a ∧ j = .int .i64 k ∧ Hid (PlaceI s L k a ∧ RowL wr g L ∧ Below w.heap.size w wr)) (fun _ j _ => L.length - (intOf j).toNat)
    case atStart => exact ⟨0, 0, Nat.zero_le _, Nat.zero_le _, rfl, rfl, P0.out, RL.out, HB.out⟩
    case round =>
      obtain ⟨k, a, hk, ha, rfl, rfl, I⟩ := hrel
      clear RL HB P0
      by_cases ck : k < L.length
      · have k0 : (0 : Int) ≤ (k : Int) := by omega
        have k1 : (k : Int) < (L.length : Int) := by omega
        obtain ⟨e0, e1, e2⟩ := PS.out k a I.out.1 ck
        obtain ⟨c0, c1, c2, c3⟩ := I.out.2.1.2 k ck
        rw [e1] at c0 c1 c2 c3
        have NC := hideR (NX.out a wr ha)
        have NB2 := hideR (fun w => NB.out a w ha)
        have t := tok_len s.data.toList a (by rw [len_of]; exact ha)
        rw [len_of] at t
        have BG := beg_le s.data.toList a (by rw [len_of]; exact ha)
        rw [len_of] at BG
        have E2 := hideR e2
        clear e1 e2 PS NX NB LL
        unfold nextV at NC
        generalize tokL s.data.toList a = r at *
        generalize begL s.data.toList a = b at *
        obtain ⟨r0, r1, r2, r3⟩ := r
        simp only at e0 t c0 c1 c2 c3 E2
        subst e0
        rw [nextW_ok] at NC
        go_wp2_with fail
        refine NC.out.mono ?_
        rintro e1 w2 ⟨rfl, hb2⟩
        clear NC
        go_upto_region 9 with (fail)
        have hb3 : Below wr.heap.size wr (w2.alloc (.cells #[.int .u8 r1, .string (s.extract b (b + r2)), .int .i64 r3, .int .i64 b] 24)) := beyond hb2 (Below.alloc (Below.refl _ _) (Nat.le_refl _) _)
        have d0 : (w2.alloc (.cells #[.int .u8 r1, .string (s.extract b (b + r2)), .int .i64 r3, .int .i64 b] 24)).cell? ⟨w2.heap.size, 0, none⟩ = some (.int .u8 r1) := by simp [go_sem]
        have d1 : (w2.alloc (.cells #[.int .u8 r1, .string (s.extract b (b + r2)), .int .i64 r3, .int .i64 b] 24)).cell? ⟨w2.heap.size, 1, none⟩ = some (.string (s.extract b (b + r2))) := by simp [go_sem]
        have d2 : (w2.alloc (.cells #[.int .u8 r1, .string (s.extract b (b + r2)), .int .i64 r3, .int .i64 b] 24)).cell? ⟨w2.heap.size, 2, none⟩ = some (.int .i64 r3) := by simp [go_sem]
        have d3 : (w2.alloc (.cells #[.int .u8 r1, .string (s.extract b (b + r2)), .int .i64 r3, .int .i64 b] 24)).cell? ⟨w2.heap.size, 3, none⟩ = some (.int .i64 b) := by simp [go_sem]
        have lt2 := hideR (show w2.heap.size < (w2.alloc (.cells #[.int .u8 r1, .string (s.extract b (b + r2)), .int .i64 r3, .int .i64 b] 24)).heap.size by simp)
        have gl := I.out.2.1.1
        replace c0 := (hb3.cell (p := ⟨g, _, none⟩) gl).trans c0
        replace c1 := (hb3.cell (p := ⟨g, _, none⟩) gl).trans c1
        replace c2 := (hb3.cell (p := ⟨g, _, none⟩) gl).trans c2
        replace c3 := (hb3.cell (p := ⟨g, _, none⟩) gl).trans c3
        have RL2 := hideR (I.out.2.1.later hb3)
        have HB2 := hideR (beyond I.out.2.2 hb3)
        clear I hb2 hb3 gl
        generalize w2.alloc (.cells #[.int .u8 r1, .string (s.extract b (b + r2)), .int .i64 r3, .int .i64 b] 24) = W2 at *
        generalize w2.heap.size = B at *
        have ez : (s.extract b (b + r2)).size = r2 := by simp; omega
        have f1 : ¬ (b : Int) < (a : Int) := by omega
        have f2 : ¬ (s.size : Int) < (b : Int) + (r2 : Int) := by omega
        have f3 : (0 : Int) ≤ (b : Int) := by omega
        have f4 : (b : Int) ≤ (b : Int) + (r2 : Int) := by omega
        have f5 : (b : Int) + (r2 : Int) ≤ (s.size : Int) := by omega
        have f6 : ((b : Int) + (r2 : Int)).toNat = b + r2 := by omega
        go_quiet (fail)
        go_wp2_with fail
        refine (NB2.out _).mono ?_
        rintro e3 w3 ⟨rfl, hb4⟩
        have hb5 : Below W2.heap.size W2 w3 := ⟨hb4.os, hb4.tape, hb4.output, hb4.size, hb4.block⟩
        have D3 := (hb5.cell (p := ⟨B, 3, none⟩) lt2.out).trans d3
        have RL3 := hideR (RL2.out.later hb5)
        have HB3 := hideR (beyond HB2.out hb5)
        have LT3 := hideR (Nat.lt_of_lt_of_le lt2.out hb5.size)
        clear hb4 hb5 d0 d1 d2 d3 c0 c1 c2 c3 RL2 HB2 lt2 NB2
        have g1 : (b : Int) - (a : Int) = ((b - a : Nat) : Int) := by omega
        generalize b - a = ba at *
        go_upto_region 12 with (fail)
        have hb6 : Below w3.heap.size w3 (w3.alloc (.cells #[.int .i64 0, .string ⟨#[]⟩, .int .i64 0, .int .i64 ba] 29)) := Below.alloc (Below.refl _ _) (Nat.le_refl _) _
        have E0 : (w3.alloc (.cells #[.int .i64 0, .string ⟨#[]⟩, .int .i64 0, .int .i64 ba] 29)).cell? ⟨w3.heap.size, 0, none⟩ = some (.int .i64 0) := by simp [go_sem]
        replace D3 := (hb6.cell (p := ⟨B, 3, none⟩) LT3.out).trans D3
        have RL4 := hideR (RL3.out.later hb6)
        have HB4 := hideR (beyond HB3.out hb6)
        clear hb6 RL3 HB3 LT3
        generalize w3.alloc (.cells #[.int .i64 0, .string ⟨#[]⟩, .int .i64 0, .int .i64 ba] 29) = W4 at *
        generalize w3.heap.size = B4 at *
        go_wp2_with fail
        go_roundw
        case rel => exact ⟨k + 1, b + r2, by omega, t, by go_num, by go_num, E2.out, RL4.out, HB4.out⟩
        case measure => simp [intOf]; omega
      · obtain rfl : k = L.length := by omega
        have k1 : ¬ (L.length : Int) < (L.length : Int) := by omega
        obtain ⟨⟨-, f, -, ⟨h, -⟩ | ⟨-, h⟩⟩, hr, hbw⟩ := I.out
        · omega
        subst h
        obtain ⟨x, hx, hx0⟩ := LL.out
        have lp : 0 < L.length := by
          cases L with
          | nil => cases hx
          | cons y L => simp
        have xl : L[L.length - 1]'(by omega) = x := by
          rw [List.getLast?_eq_getElem?, List.getElem?_eq_getElem (by omega)] at hx
          injection hx
        have HK2 := hideR (kept_later HK.out hbw)
        have RL := hideR hr
        have HB := hideR hbw
        have m1 : (0 : Int) < (L.length : Int) := by omega
        have m2 : (0 : Int) ≤ (L.length : Int) - 1 := by omega
        have m3 : (L.length : Int) - 1 < (L.length : Int) := by omega
        have m4 : ((L.length : Int) - 1).toNat = L.length - 1 := by omega
        clear I hr hbw LL PS NX NB hx
        go_wp2_with fail
        refine (live_any _ HK2.out).mono ?_
        rintro e3 w3 ⟨rfl, hb3⟩
        have c0 := ((RL.out.later hb3).2 (L.length - 1) (by omega)).1
        rw [xl, hx0] at c0
        have hb := beyond HB.out hb3
        clear hb3 RL HB HK2 HK xl hx0
        go_wp2_with fail
        go_ret
        exact ⟨rfl, hb⟩
end lexPlaces
end Go.Proofs.YtabjadbpllhgkaaDoor
