/-
  The document's Right.
-/
import Derived.Test.YtmnhbokiibaopaaDoorQk
namespace Go.Proofs.YtmnhbokiibaopaaDoor
open Go.RowKit
set_option linter.unusedVariables false
theorem root_head {L s : List Node} {r : Node} (h : stk rootJ L = some (r :: s)) : ∃ L', L = r :: L' := by
  cases L with
  | nil => simp [stk] at h
  | cons n l =>
    obtain ⟨s', t, e, hl, ht, q⟩ := stk_some h
    injection ht with ht
    injection q with q1 q2
    exact ⟨l, by rw [q1, ht]⟩
theorem root_mem : ∀ (L s : List Node), stk rootJ L = some s → ∀ r ∈ s, r ∈ L
  | [], s, h, r, hr => by simp [stk] at h; subst h; cases hr
  | n :: l, s, h, r, hr => by
    obtain ⟨s', t, e, hl, ht, rfl⟩ := stk_some h
    injection ht with ht
    rcases List.mem_cons.1 hr with q | q
    · rw [q, ← ht]; exact List.mem_cons_self
    · exact List.mem_cons_of_mem _ (root_mem l s' e r (List.mem_of_mem_drop q))
/-- What the document asks of a node and its parts. -/
def nodeRef (k : Int) (l : List Node) (i : Nat) (n : Node) : Prop := nodeOk k n ∧ ∀ s, stk rootJ (l.drop (i + 1)) = some s → ∀ r ∈ s.take (pt n), ¬ truthO r.1 = numsO n.1
theorem ref_right {k : Int} {l : List Node} (h0 : 0 < l.length) (h64 : l.length ≤ 64) (he : endC 1 l 0 = l.length) (H : ∀ i n, l[i]? = some n → nodeRef k l i n) : rightE k l = 0 := by
  obtain ⟨t, ht⟩ := right_of h0 h64 he (fun i hi => by
    obtain ⟨h1, h2⟩ := H i _ (List.getElem?_eq_getElem hi)
    refine ⟨h1, fun s hs r hr => ?_⟩
    have hv : ∀ n ∈ l, nodeOk k n := fun n hn => by
      obtain ⟨j, hj, rfl⟩ := List.getElem_of_mem hn
      exact (H j _ (List.getElem?_eq_getElem hj)).1
    have hrl : r ∈ l := List.mem_of_mem_drop (root_mem _ _ hs r (List.mem_of_mem_take hr))
    have hp : 1 ≤ pt (l[i]'hi) := by
      rcases Nat.eq_zero_or_pos (pt (l[i]'hi)) with q | q
      · rw [q] at hr
        simp at hr
      · exact q
    have := h2 s hs r hr
    rw [part_kind _ _ (ok_in h1) (ok_in (hv r hrl)) hp] at this
    exact Decidable.not_not.1 this)
  unfold rightE
  rw [ht]
  rfl
theorem ref_wrong {k : Int} {l : List Node} (h : ∀ t, kindL k l = some t → False) : rightE k l = 121 := by
  unfold rightE
  cases e : kindL k l with
  | none => rfl
  | some t => exact (h t e).elim
theorem ref_node {k : Int} {l : List Node} {t : Nat} (h : kindL k l = some t) {i : Nat} {n : Node} (hn : l[i]? = some n) : nodeRef k l i n := by
  obtain ⟨hl, rfl⟩ := List.getElem?_eq_some_iff.1 hn
  obtain ⟨h1, s, hs, h2, h3⟩ := right_nodes h i hl
  refine ⟨h1, fun s' hs' r hr => ?_⟩
  obtain rfl : s = s' := Option.some.inj (hs.symm.trans hs')
  have hrl : r ∈ l := List.mem_of_mem_drop (root_mem _ _ hs r (List.mem_of_mem_take hr))
  obtain ⟨j, hj, rfl⟩ := List.getElem_of_mem hrl
  have hp : 1 ≤ pt (l[i]'hl) := by
    rcases Nat.eq_zero_or_pos (pt (l[i]'hl)) with q | q
    · rw [q] at hr
      simp at hr
    · exact q
  rw [part_kind _ _ (ok_in h1) (ok_in (right_nodes h j hj).1) hp]
  exact fun q => q (h3 _ hr)
/-- How many parts lie behind a node, where the list ends with its first tree. -/
theorem parts_there {l : List Node} (h0 : 0 < l.length) (he : endC 1 l 0 = l.length) {i : Nat} {n : Node} (hn : l[i]? = some n) : ∃ s, stk rootJ (l.drop (i + 1)) = some s ∧ pt n ≤ s.length := by
  obtain ⟨rs, hr, _⟩ := end_root l 1 0 (Nat.le_refl _) h0 (by rw [he]; omega)
  obtain ⟨hl, rfl⟩ := List.getElem?_eq_some_iff.1 hn
  obtain ⟨s', hs'⟩ := stk_suffix l rs i hr
  rw [drop_eq l hl] at hs'
  obtain ⟨s2, u, e, h2, _⟩ := stk_some hs'
  exact ⟨s2, e, h2⟩
/-- One part more: where it is, and where the next one is. -/
theorem part_next {l s : List Node} {q p : Nat} (hs : stk rootJ (l.drop q) = some (s.drop p)) (hp : p < s.length) : ∃ r, s[p]? = some r ∧ l[q]? = some r ∧ stk rootJ (l.drop (endL l (q : Int))) = some (s.drop (p + 1)) ∧ endL l (q : Int) ≤ l.length := by
  have hd : s.drop p = s[p]'hp :: s.drop (p + 1) := List.drop_eq_getElem_cons hp
  rw [hd] at hs
  obtain ⟨L', hL⟩ := root_head hs
  refine ⟨s[p]'hp, List.getElem?_eq_getElem hp, ?_, ?_⟩
  · have : (l.drop q)[0]? = some (s[p]'hp) := by rw [hL]; rfl
    rwa [List.getElem?_drop, Nat.add_zero] at this
  · obtain ⟨p', p1, p2, p3, p4⟩ := end_stk (l.drop q) _ 1 q hs (Nat.le_refl _) (by rw [List.length_cons]; omega)
    have e : endL l (q : Int) = q + p' := by
      unfold endL
      rw [if_neg (by omega), Int.toNat_natCast]
      exact p3
    rw [e]
    refine ⟨?_, ?_⟩
    · rw [List.drop_drop] at p4
      rw [p4]
      rfl
    · rw [List.length_drop] at p2
      omega
theorem mayH_no1 {N k : Int} (h : ¬ mayH 1 N k = true) : N < 0 ∨ 1048576 < N := by
  simp [mayH] at h
  omega
theorem mayH_no2 {N k : Int} (h : ¬ mayH 2 N k = true) : N < 0 ∨ k ≤ N := by
  simp [mayH] at h
  omega
theorem mayH_no {o : Nat} {N k : Int} (h1 : ¬ o = 1) (h2 : ¬ o = 2) (h : ¬ mayH o N k = true) : ¬ N = 0 := by
  simp [mayH, h1, h2] at h
  exact h
theorem mayH_0 {o : Nat} {N k : Int} (h1 : ¬ o = 1) (h2 : ¬ o = 2) (h : mayH o N k = true) : N = 0 := by
  simp [mayH, h1, h2] at h
  exact h
theorem kind_in {o : Nat} (h : 1 ≤ o ∧ o ≤ 14) : (opR o).2.2.1 ≠ 0 := by
  have : ∀ o : Nat, o < 15 → 1 ≤ o → (opR o).2.2.1 ≠ 0 := by decide
  exact this o (by omega) h.1
set_option maxRecDepth 100000 in
set_option maxHeartbeats 4000000 in
theorem rright_any (ad : Option Addr) (cap : Nat) (l : List Node) (k : Int) (w : World) (hV : RowV w ad (l.flatMap NodeC)) (hI : ∀ n ∈ l, n.1 < 256) (hl : l.length * 16 ≤ 140737488355328) :
    Calls Tryd.prog 14 #[.slice ad l.length cap, .int .i64 k] w fun e w' => e = .returned (.int .i64 (rightE k l)) ∧ Below w.heap.size w w' := by
  have EN : Hid (∀ q : Nat, q ≤ 8796093022208 → ∀ W, Below w.heap.size w W → Calls Tryd.prog 12 #[.slice ad l.length cap, .int .i64 (q : Int)] W fun e w' => e = .returned (.int .i64 (endL l (q : Int) : Int)) ∧ Below W.heap.size W w') := fun q hq W hb => rend_any ad cap l (q : Int) ⟨by omega, by omega⟩ W (hV.later hb) hI hl
  by_cases c0 : l.length = 0
  · have RE : Hid (rightE k l = 121) := ref_wrong (fun t ht => by
      rw [List.length_eq_zero_iff.1 c0] at ht
      cases ht)
    clear hV hI EN hl
    rw [c0]
    go_enter Tryd.func14, Tryd.ntmps14
    go_wp2_with fail
    exact bodyPost_ret (v := .int .i64 121) (by simp [results, Tryd.results14, go_sem]) rfl ⟨by rw [RE.out], Below.refl _ _⟩
  have d0 : ¬ (l.length : Int) = 0 := by omega
  have d1 : ((l.length : Int) == 0) = false := by simpa using d0
  by_cases c1 : 64 < l.length
  · have RE : Hid (rightE k l = 121) := ref_wrong (fun t ht => by
      have := (kindL_stk ht).1
      omega)
    have d2 : (64 : Int) < (l.length : Int) := by omega
    clear hV hI EN hl
    generalize l.length = n at *
    go_enter Tryd.func14, Tryd.ntmps14
    go_wp2_with fail
    exact bodyPost_ret (v := .int .i64 121) (by simp [results, Tryd.results14, go_sem]) rfl ⟨by rw [RE.out], Below.refl _ _⟩
  have d2 : ¬ (64 : Int) < (l.length : Int) := by omega
  have e00 : endL l (0 : Nat) = endC 1 l 0 := by
    unfold endL
    rw [if_neg (by omega)]
    rfl
  by_cases c2 : endC 1 l 0 = l.length
  · have E0 := hideR (EN.out 0 (by omega) w (Below.refl _ _))
    rw [e00, c2] at E0
    have h0 : 0 < l.length := by omega
    have PT : Hid (∀ i n, l[i]? = some n → ∃ s, stk rootJ (l.drop (i + 1)) = some s ∧ pt n ≤ s.length) := fun i n hn => parts_there h0 c2 hn
    have RR : Hid ((∀ i n, l[i]? = some n → nodeRef k l i n) → rightE k l = 0) := fun H => ref_right h0 (by omega) c2 H
    have PN : Hid (∀ o : Nat, o < 256 → ∀ W, Below w.heap.size w W → Calls Tryd.prog 39 #[.int .u8 (o : Int)] W fun e w' => e = .returned (.int .i64 ((opR o).1 : Int)) ∧ Below W.heap.size W w') := fun o _ W _ => parts_any o W
    have TN : Hid (∀ o : Nat, o < 256 → ∀ W, Below w.heap.size w W → Calls Tryd.prog 41 #[.int .u8 (o : Int)] W fun e w' => e = .returned (.bool (truthO o)) ∧ Below W.heap.size W w') := fun o _ W _ => truth_any o W
    have NN : Hid (∀ o : Nat, o < 15 → ∀ W, Below w.heap.size w W → Calls Tryd.prog 42 #[.int .u8 (o : Int)] W fun e w' => e = .returned (.bool (numsO o)) ∧ Below W.heap.size W w') := fun o h W _ => nums_any o h W
    have HV := hideR hV
    have HI := hideR hI
    clear hV hI hl e00 c2 h0 c0
    generalize hn : l.length = n at *
    have HN := hideR hn
    clear hn
    go_enter Tryd.func14, Tryd.ntmps14
    go_wp2_with fail
    refine E0.out.mono ?_
    rintro e w1 ⟨rfl, hb⟩
    have B0 := hideR hb
    clear hb E0
    go_wp2_with fail
    go_loopw [5] (fun a wr => ∃ (i : Nat), i ≤ n ∧ a = .int .i64 i ∧ Hid (Below w.heap.size w wr ∧ ∀ j x, j < i → l[j]? = some x → nodeRef k l j x)) (fun a _ => n - (intOf a).toNat)
    case atStart => exact ⟨0, by omega, rfl, B0.out, fun j x h => absurd h (Nat.not_lt_zero _)⟩
    case round =>
      obtain ⟨i, hin, rfl, E⟩ := hrel
      clear B0
      by_cases ci : i < n
      · have il : i < l.length := by rw [HN.out]; exact ci
        have B := hideR E.out.1
        obtain ⟨b, off, rfl, x0, x1⟩ := nodes_at (HV.out.later B.out) il
        have HX := hideR (List.getElem?_eq_getElem il)
        have hi := HI.out _ (List.getElem_mem il)
        generalize l[i]'il = x at *
        obtain ⟨o, N⟩ := x
        simp only at x0 x1 hi
        have k0 : (0 : Int) ≤ (i : Int) := by omega
        have k1 : (i : Int) < (n : Int) := by omega
        have e1 : IntKind.i64.wrap ((i : Int) + 1) = (i : Int) + 1 := by rw [IntKind.wrap_i64]; omega
        by_cases cv : 1 ≤ o ∧ o ≤ 14
        · obtain ⟨v1, v2⟩ := cv
          have f1 : ¬ (o : Int) < 1 := by omega
          have f2 : ¬ (14 : Int) < (o : Int) := by omega
          by_cases cm : mayH o N k = true
          · have NO : Hid (nodeOk k (o, N)) := ⟨kind_in ⟨v1, v2⟩, cm⟩
            by_cases o1 : o = 1
            · subst o1
              have cN : 0 ≤ N ∧ N ≤ 1048576 := by simpa [mayH] using cm
              have f3 : ¬ N < 0 := by omega
              have f4 : ¬ (1048576 : Int) < N := by omega
              obtain ⟨s, hs, hps⟩ := PT.out i (1, N) HX.out
              have p2 := pt_le (1, N)
              generalize hpt : pt (1, N) = pp at *
              have HPT := hideR hpt
              have HS := hideR hs
              have PA := hideR (PN.out 1 hi)
              rw [show (opR 1).1 = pp from hpt] at PA
              clear hs hpt
              have g1 : IntKind.i64.wrap ((i : Int) + 1) = (i : Int) + 1 := by rw [IntKind.wrap_i64]; omega
              go_wp2_with fail
              go_loopw [8, 9] (fun a p wr => ∃ (q j : Nat), a = .int .i64 q ∧ p = .int .i64 j ∧ j ≤ pp ∧ q ≤ n + 1 ∧ Hid (stk rootJ (l.drop q) = some (s.drop j) ∧ (∀ r ∈ s.take j, ¬ truthO r.1 = numsO 1) ∧ Below w.heap.size w wr)) (fun _ p _ => pp - (intOf p).toNat)
              case atStart => exact ⟨i + 1, 0, by go_num, rfl, by omega, by omega, by simpa using HS.out, fun r hr => (by simp at hr), B.out⟩
              case round =>
                obtain ⟨q, j, rfl, rfl, hj, hq, F⟩ := hrel
                have BF := hideR F.out.2.2
                go_wp2_with fail
                refine (PA.out _ BF.out).mono ?_
                rintro e w1 ⟨rfl, hb⟩
                have B1 := hideR (beyond BF.out hb)
                clear hb
                by_cases cj : j < pp
                · have k1 : (j : Int) < (pp : Int) := by omega
                  obtain ⟨r, hr1, hr2, hr3, hr4⟩ := part_next F.out.1 (show j < s.length by omega)
                  obtain ⟨ql, hqr⟩ := List.getElem?_eq_some_iff.1 hr2
                  obtain ⟨b2, off2, hbo, y0, _⟩ := nodes_at (HV.out.later B1.out) ql
                  injection hbo with hbo
                  injection hbo with z1 z2
                  subst z1 z2
                  rw [hqr] at y0
                  have hri : r.1 < 256 := HI.out r (hqr ▸ List.getElem_mem ql)
                  have TR := hideR (TN.out r.1 hri)
                  have NU := hideR (NN.out 1 (by omega))
                  have q0 : (0 : Int) ≤ (q : Int) := by omega
                  have q1 : (q : Int) < (n : Int) := by have := HN.out; omega
                  have EQ := hideR (EN.out q (by omega))
                  have HR3 := hideR hr3
                  have HR4 := hideR hr4
                  have g2 : IntKind.i64.wrap ((j : Int) + 1) = (j : Int) + 1 := by rw [IntKind.wrap_i64]; omega
                  generalize endL l (q : Int) = eq at *
                  have HT2 : Hid (truthO r.1 = truthO r.1) := rfl
                  by_cases ct : truthO r.1 = numsO 1
                  · have RE : Hid (rightE k l = 121) := ref_wrong (fun t ht => by
                      have := (ref_node ht HX.out).2 s HS.out r (List.mem_iff_getElem?.2 ⟨j, by rw [List.getElem?_take, HPT.out, if_pos cj]; exact hr1⟩)
                      exact this ct)
                    rw [ct] at TR
                    clear ct F HR3 HR4 hr1 hr2 hr3 hr4 EQ
                    generalize numsO 1 = nb at *
                    generalize r.1 = ro at *
                    go_wp2_with fail
                    refine (TR.out _ B1.out).mono ?_
                    rintro e w2 ⟨rfl, hb⟩
                    have B2 := hideR (beyond B1.out hb)
                    clear hb TR
                    go_wp2_with fail
                    refine (NU.out _ B2.out).mono ?_
                    rintro e w3 ⟨rfl, hb⟩
                    have B3 := hideR (beyond B2.out hb)
                    clear hb NU
                    have nn : (nb == nb) = true := by simp
                    go_wp2_with fail
                    exact bodyPost_ret (v := .int .i64 121) (by simp [results, Tryd.results14, go_sem]) rfl ⟨by rw [RE.out], B3.out⟩
                  · have F2 : Hid (∀ r ∈ s.take (j + 1), ¬ truthO r.1 = numsO 1) := by
                      intro x hxm
                      rw [List.take_add_one, hr1] at hxm
                      rcases List.mem_append.1 hxm with h | h
                      · exact F.out.2.1 x h
                      · rw [show x = r by simpa using h]
                        exact ct
                    have cn : (truthO r.1 == numsO 1) = false := by simpa using ct
                    have ce : eq ≤ n + 1 := by have := HR4.out; have := HN.out; omega
                    clear ct F hr1 hr2 hr3 hr4
                    generalize truthO r.1 = tb at TR cn
                    generalize numsO 1 = nb at NU cn
                    generalize r.1 = ro at TR y0
                    go_wp2_with fail
                    refine (TR.out _ B1.out).mono ?_
                    rintro e w2 ⟨rfl, hb⟩
                    have B2 := hideR (beyond B1.out hb)
                    clear hb TR
                    go_wp2_with fail
                    refine (NU.out _ B2.out).mono ?_
                    rintro e w3 ⟨rfl, hb⟩
                    have B3 := hideR (beyond B2.out hb)
                    clear hb NU
                    go_wp2_with fail
                    refine (EQ.out _ B3.out).mono ?_
                    rintro e w4 ⟨rfl, hb⟩
                    have B4 := hideR (beyond B3.out hb)
                    clear hb EQ
                    go_wp2_with fail
                    go_roundw
                    case rel => exact ⟨eq, j + 1, rfl, by go_num, by omega, ce, HR3.out, F2.out, B4.out⟩
                    case measure => first | (simp [intOf]; done) | (simp [intOf]; omega)
                · have k1 : ¬ (j : Int) < (pp : Int) := by omega
                  obtain rfl : j = pp := by omega
                  have NR : Hid (nodeRef k l i (1, N)) := by
                    refine ⟨NO.out, fun s' hs' r hr => ?_⟩
                    obtain rfl : s = s' := Option.some.inj (HS.out.symm.trans hs')
                    rw [HPT.out] at hr
                    exact F.out.2.1 r hr
                  go_wp2_with fail
                  go_roundw
                  case rel => exact ⟨i + 1, by omega, by go_num, B1.out, fun j x hj hx => by
                    by_cases q : j = i
                    · subst q
                      obtain rfl := Option.some.inj (HX.out.symm.trans hx)
                      exact NR.out
                    · exact E.out.2 j x (by omega) hx⟩
                  case measure => first | (simp [intOf]; done) | (simp [intOf]; omega)
            · by_cases o2 : o = 2
              · subst o2
                have cN : 0 ≤ N ∧ N < k := by simpa [mayH] using cm
                have f3 : ¬ N < 0 := by omega
                have f4 : ¬ k ≤ N := by omega
                obtain ⟨s, hs, hps⟩ := PT.out i (2, N) HX.out
                have p2 := pt_le (2, N)
                generalize hpt : pt (2, N) = pp at *
                have HPT := hideR hpt
                have HS := hideR hs
                have PA := hideR (PN.out 2 hi)
                rw [show (opR 2).1 = pp from hpt] at PA
                clear hs hpt
                have g1 : IntKind.i64.wrap ((i : Int) + 1) = (i : Int) + 1 := by rw [IntKind.wrap_i64]; omega
                go_wp2_with fail
                go_loopw [8, 9] (fun a p wr => ∃ (q j : Nat), a = .int .i64 q ∧ p = .int .i64 j ∧ j ≤ pp ∧ q ≤ n + 1 ∧ Hid (stk rootJ (l.drop q) = some (s.drop j) ∧ (∀ r ∈ s.take j, ¬ truthO r.1 = numsO 2) ∧ Below w.heap.size w wr)) (fun _ p _ => pp - (intOf p).toNat)
                case atStart => exact ⟨i + 1, 0, by go_num, rfl, by omega, by omega, by simpa using HS.out, fun r hr => (by simp at hr), B.out⟩
                case round =>
                  obtain ⟨q, j, rfl, rfl, hj, hq, F⟩ := hrel
                  have BF := hideR F.out.2.2
                  go_wp2_with fail
                  refine (PA.out _ BF.out).mono ?_
                  rintro e w1 ⟨rfl, hb⟩
                  have B1 := hideR (beyond BF.out hb)
                  clear hb
                  by_cases cj : j < pp
                  · have k1 : (j : Int) < (pp : Int) := by omega
                    obtain ⟨r, hr1, hr2, hr3, hr4⟩ := part_next F.out.1 (show j < s.length by omega)
                    obtain ⟨ql, hqr⟩ := List.getElem?_eq_some_iff.1 hr2
                    obtain ⟨b2, off2, hbo, y0, _⟩ := nodes_at (HV.out.later B1.out) ql
                    injection hbo with hbo
                    injection hbo with z1 z2
                    subst z1 z2
                    rw [hqr] at y0
                    have hri : r.1 < 256 := HI.out r (hqr ▸ List.getElem_mem ql)
                    have TR := hideR (TN.out r.1 hri)
                    have NU := hideR (NN.out 2 (by omega))
                    have q0 : (0 : Int) ≤ (q : Int) := by omega
                    have q1 : (q : Int) < (n : Int) := by have := HN.out; omega
                    have EQ := hideR (EN.out q (by omega))
                    have HR3 := hideR hr3
                    have HR4 := hideR hr4
                    have g2 : IntKind.i64.wrap ((j : Int) + 1) = (j : Int) + 1 := by rw [IntKind.wrap_i64]; omega
                    generalize endL l (q : Int) = eq at *
                    have HT2 : Hid (truthO r.1 = truthO r.1) := rfl
                    by_cases ct : truthO r.1 = numsO 2
                    · have RE : Hid (rightE k l = 121) := ref_wrong (fun t ht => by
                        have := (ref_node ht HX.out).2 s HS.out r (List.mem_iff_getElem?.2 ⟨j, by rw [List.getElem?_take, HPT.out, if_pos cj]; exact hr1⟩)
                        exact this ct)
                      rw [ct] at TR
                      clear ct F HR3 HR4 hr1 hr2 hr3 hr4 EQ
                      generalize numsO 2 = nb at *
                      generalize r.1 = ro at *
                      go_wp2_with fail
                      refine (TR.out _ B1.out).mono ?_
                      rintro e w2 ⟨rfl, hb⟩
                      have B2 := hideR (beyond B1.out hb)
                      clear hb TR
                      go_wp2_with fail
                      refine (NU.out _ B2.out).mono ?_
                      rintro e w3 ⟨rfl, hb⟩
                      have B3 := hideR (beyond B2.out hb)
                      clear hb NU
                      have nn : (nb == nb) = true := by simp
                      go_wp2_with fail
                      exact bodyPost_ret (v := .int .i64 121) (by simp [results, Tryd.results14, go_sem]) rfl ⟨by rw [RE.out], B3.out⟩
                    · have F2 : Hid (∀ r ∈ s.take (j + 1), ¬ truthO r.1 = numsO 2) := by
                        intro x hxm
                        rw [List.take_add_one, hr1] at hxm
                        rcases List.mem_append.1 hxm with h | h
                        · exact F.out.2.1 x h
                        · rw [show x = r by simpa using h]
                          exact ct
                      have cn : (truthO r.1 == numsO 2) = false := by simpa using ct
                      have ce : eq ≤ n + 1 := by have := HR4.out; have := HN.out; omega
                      clear ct F hr1 hr2 hr3 hr4
                      generalize truthO r.1 = tb at TR cn
                      generalize numsO 2 = nb at NU cn
                      generalize r.1 = ro at TR y0
                      go_wp2_with fail
                      refine (TR.out _ B1.out).mono ?_
                      rintro e w2 ⟨rfl, hb⟩
                      have B2 := hideR (beyond B1.out hb)
                      clear hb TR
                      go_wp2_with fail
                      refine (NU.out _ B2.out).mono ?_
                      rintro e w3 ⟨rfl, hb⟩
                      have B3 := hideR (beyond B2.out hb)
                      clear hb NU
                      go_wp2_with fail
                      refine (EQ.out _ B3.out).mono ?_
                      rintro e w4 ⟨rfl, hb⟩
                      have B4 := hideR (beyond B3.out hb)
                      clear hb EQ
                      go_wp2_with fail
                      go_roundw
                      case rel => exact ⟨eq, j + 1, rfl, by go_num, by omega, ce, HR3.out, F2.out, B4.out⟩
                      case measure => first | (simp [intOf]; done) | (simp [intOf]; omega)
                  · have k1 : ¬ (j : Int) < (pp : Int) := by omega
                    obtain rfl : j = pp := by omega
                    have NR : Hid (nodeRef k l i (2, N)) := by
                      refine ⟨NO.out, fun s' hs' r hr => ?_⟩
                      obtain rfl : s = s' := Option.some.inj (HS.out.symm.trans hs')
                      rw [HPT.out] at hr
                      exact F.out.2.1 r hr
                    go_wp2_with fail
                    go_roundw
                    case rel => exact ⟨i + 1, by omega, by go_num, B1.out, fun j x hj hx => by
                      by_cases q : j = i
                      · subst q
                        obtain rfl := Option.some.inj (HX.out.symm.trans hx)
                        exact NR.out
                      · exact E.out.2 j x (by omega) hx⟩
                    case measure => first | (simp [intOf]; done) | (simp [intOf]; omega)
              · have f3 : ((o : Int) == 1) = false := by simp; omega
                have f4 : ((o : Int) == 2) = false := by simp; omega
                obtain rfl : N = 0 := mayH_0 o1 o2 cm
                obtain ⟨s, hs, hps⟩ := PT.out i (o, 0) HX.out
                have p2 := pt_le (o, 0)
                generalize hpt : pt (o, 0) = pp at *
                have HPT := hideR hpt
                have HS := hideR hs
                have PA := hideR (PN.out o hi)
                rw [show (opR o).1 = pp from hpt] at PA
                clear hs hpt
                have g1 : IntKind.i64.wrap ((i : Int) + 1) = (i : Int) + 1 := by rw [IntKind.wrap_i64]; omega
                go_wp2_with fail
                go_loopw [8, 9] (fun a p wr => ∃ (q j : Nat), a = .int .i64 q ∧ p = .int .i64 j ∧ j ≤ pp ∧ q ≤ n + 1 ∧ Hid (stk rootJ (l.drop q) = some (s.drop j) ∧ (∀ r ∈ s.take j, ¬ truthO r.1 = numsO o) ∧ Below w.heap.size w wr)) (fun _ p _ => pp - (intOf p).toNat)
                case atStart => exact ⟨i + 1, 0, by go_num, rfl, by omega, by omega, by simpa using HS.out, fun r hr => (by simp at hr), B.out⟩
                case round =>
                  obtain ⟨q, j, rfl, rfl, hj, hq, F⟩ := hrel
                  have BF := hideR F.out.2.2
                  go_wp2_with fail
                  refine (PA.out _ BF.out).mono ?_
                  rintro e w1 ⟨rfl, hb⟩
                  have B1 := hideR (beyond BF.out hb)
                  clear hb
                  by_cases cj : j < pp
                  · have k1 : (j : Int) < (pp : Int) := by omega
                    obtain ⟨r, hr1, hr2, hr3, hr4⟩ := part_next F.out.1 (show j < s.length by omega)
                    obtain ⟨ql, hqr⟩ := List.getElem?_eq_some_iff.1 hr2
                    obtain ⟨b2, off2, hbo, y0, _⟩ := nodes_at (HV.out.later B1.out) ql
                    injection hbo with hbo
                    injection hbo with z1 z2
                    subst z1 z2
                    rw [hqr] at y0
                    have hri : r.1 < 256 := HI.out r (hqr ▸ List.getElem_mem ql)
                    have TR := hideR (TN.out r.1 hri)
                    have NU := hideR (NN.out o (by omega))
                    have q0 : (0 : Int) ≤ (q : Int) := by omega
                    have q1 : (q : Int) < (n : Int) := by have := HN.out; omega
                    have EQ := hideR (EN.out q (by omega))
                    have HR3 := hideR hr3
                    have HR4 := hideR hr4
                    have g2 : IntKind.i64.wrap ((j : Int) + 1) = (j : Int) + 1 := by rw [IntKind.wrap_i64]; omega
                    generalize endL l (q : Int) = eq at *
                    have HT2 : Hid (truthO r.1 = truthO r.1) := rfl
                    by_cases ct : truthO r.1 = numsO o
                    · have RE : Hid (rightE k l = 121) := ref_wrong (fun t ht => by
                        have := (ref_node ht HX.out).2 s HS.out r (List.mem_iff_getElem?.2 ⟨j, by rw [List.getElem?_take, HPT.out, if_pos cj]; exact hr1⟩)
                        exact this ct)
                      rw [ct] at TR
                      clear ct F HR3 HR4 hr1 hr2 hr3 hr4 EQ
                      generalize numsO o = nb at *
                      generalize r.1 = ro at *
                      go_wp2_with fail
                      refine (TR.out _ B1.out).mono ?_
                      rintro e w2 ⟨rfl, hb⟩
                      have B2 := hideR (beyond B1.out hb)
                      clear hb TR
                      go_wp2_with fail
                      refine (NU.out _ B2.out).mono ?_
                      rintro e w3 ⟨rfl, hb⟩
                      have B3 := hideR (beyond B2.out hb)
                      clear hb NU
                      have nn : (nb == nb) = true := by simp
                      go_wp2_with fail
                      exact bodyPost_ret (v := .int .i64 121) (by simp [results, Tryd.results14, go_sem]) rfl ⟨by rw [RE.out], B3.out⟩
                    · have F2 : Hid (∀ r ∈ s.take (j + 1), ¬ truthO r.1 = numsO o) := by
                        intro x hxm
                        rw [List.take_add_one, hr1] at hxm
                        rcases List.mem_append.1 hxm with h | h
                        · exact F.out.2.1 x h
                        · rw [show x = r by simpa using h]
                          exact ct
                      have cn : (truthO r.1 == numsO o) = false := by simpa using ct
                      have ce : eq ≤ n + 1 := by have := HR4.out; have := HN.out; omega
                      clear ct F hr1 hr2 hr3 hr4
                      generalize truthO r.1 = tb at TR cn
                      generalize numsO o = nb at NU cn
                      generalize r.1 = ro at TR y0
                      go_wp2_with fail
                      refine (TR.out _ B1.out).mono ?_
                      rintro e w2 ⟨rfl, hb⟩
                      have B2 := hideR (beyond B1.out hb)
                      clear hb TR
                      go_wp2_with fail
                      refine (NU.out _ B2.out).mono ?_
                      rintro e w3 ⟨rfl, hb⟩
                      have B3 := hideR (beyond B2.out hb)
                      clear hb NU
                      go_wp2_with fail
                      refine (EQ.out _ B3.out).mono ?_
                      rintro e w4 ⟨rfl, hb⟩
                      have B4 := hideR (beyond B3.out hb)
                      clear hb EQ
                      go_wp2_with fail
                      go_roundw
                      case rel => exact ⟨eq, j + 1, rfl, by go_num, by omega, ce, HR3.out, F2.out, B4.out⟩
                      case measure => first | (simp [intOf]; done) | (simp [intOf]; omega)
                  · have k1 : ¬ (j : Int) < (pp : Int) := by omega
                    obtain rfl : j = pp := by omega
                    have NR : Hid (nodeRef k l i (o, 0)) := by
                      refine ⟨NO.out, fun s' hs' r hr => ?_⟩
                      obtain rfl : s = s' := Option.some.inj (HS.out.symm.trans hs')
                      rw [HPT.out] at hr
                      exact F.out.2.1 r hr
                    go_wp2_with fail
                    go_roundw
                    case rel => exact ⟨i + 1, by omega, by go_num, B1.out, fun j x hj hx => by
                      by_cases q : j = i
                      · subst q
                        obtain rfl := Option.some.inj (HX.out.symm.trans hx)
                        exact NR.out
                      · exact E.out.2 j x (by omega) hx⟩
                    case measure => first | (simp [intOf]; done) | (simp [intOf]; omega)
          · have RE : Hid (rightE k l = 121) := ref_wrong (fun t ht => cm (ref_node ht HX.out).1.2)
            by_cases o1 : o = 1
            · subst o1
              rcases mayH_no1 cm with cN | cN
              · go_wp2_with fail
                exact bodyPost_ret (v := .int .i64 121) (by simp [results, Tryd.results14, go_sem]) rfl ⟨by rw [RE.out], B.out⟩
              · have f3 : ¬ N < 0 := by omega
                go_wp2_with fail
                exact bodyPost_ret (v := .int .i64 121) (by simp [results, Tryd.results14, go_sem]) rfl ⟨by rw [RE.out], B.out⟩
            · by_cases o2 : o = 2
              · subst o2
                rcases mayH_no2 cm with cN | cN
                · go_wp2_with fail
                  exact bodyPost_ret (v := .int .i64 121) (by simp [results, Tryd.results14, go_sem]) rfl ⟨by rw [RE.out], B.out⟩
                · by_cases cM : N < 0
                  · go_wp2_with fail
                    exact bodyPost_ret (v := .int .i64 121) (by simp [results, Tryd.results14, go_sem]) rfl ⟨by rw [RE.out], B.out⟩
                  · go_wp2_with fail
                    exact bodyPost_ret (v := .int .i64 121) (by simp [results, Tryd.results14, go_sem]) rfl ⟨by rw [RE.out], B.out⟩
              · have cN := mayH_no o1 o2 cm
                have f3 : ((o : Int) == 1) = false := by simp; omega
                have f4 : ((o : Int) == 2) = false := by simp; omega
                have f5 : (N == 0) = false := by simpa using cN
                have f6 : (N != 0) = true := by simpa using cN
                have f7 : ((o : Int) != 1) = true := by simp; omega
                have f8 : ((o : Int) != 2) = true := by simp; omega
                go_wp2_with fail
                exact bodyPost_ret (v := .int .i64 121) (by simp [results, Tryd.results14, go_sem]) rfl ⟨by rw [RE.out], B.out⟩
        · have RE : Hid (rightE k l = 121) := ref_wrong (fun t ht => cv (ok_in (ref_node ht HX.out).1))
          have : o = 0 ∨ 15 ≤ o := by omega
          rcases this with rfl | h15
          · go_wp2_with fail
            exact bodyPost_ret (v := .int .i64 121) (by simp [results, Tryd.results14, go_sem]) rfl ⟨by rw [RE.out], B.out⟩
          · have f1 : ¬ (o : Int) < 1 := by omega
            have f2 : (14 : Int) < (o : Int) := by omega
            go_wp2_with fail
            exact bodyPost_ret (v := .int .i64 121) (by simp [results, Tryd.results14, go_sem]) rfl ⟨by rw [RE.out], B.out⟩
      · have RE : Hid (rightE k l = 0) := RR.out (fun j x hx => E.out.2 j x (by
          have := (List.getElem?_eq_some_iff.1 hx).1
          have := HN.out
          omega) hx)
        have k1 : ¬ (i : Int) < (n : Int) := by omega
        go_wp2_with fail
        exact bodyPost_ret (v := .int .i64 0) (by simp [results, Tryd.results14, go_sem]) rfl ⟨by rw [RE.out], E.out.1⟩
  · have RE : Hid (rightE k l = 121) := ref_wrong (fun t ht => c2 (right_end ht))
    have E0 := hideR (EN.out 0 (by omega) w (Below.refl _ _))
    rw [e00] at E0
    have d3 : ¬ ((endC 1 l 0 : Nat) : Int) = (l.length : Int) := by omega
    have d4 : (((endC 1 l 0 : Nat) : Int) == (l.length : Int)) = false := by simpa using d3
    clear hV hI EN hl e00 c2
    generalize endC 1 l 0 = z at *
    generalize l.length = n at *
    go_enter Tryd.func14, Tryd.ntmps14
    go_wp2_with fail
    refine E0.out.mono ?_
    rintro e w1 ⟨rfl, hb⟩
    have B1 := hideR hb
    clear hb E0
    go_wp2_with fail
    exact bodyPost_ret (v := .int .i64 121) (by simp [results, Tryd.results14, go_sem]) rfl ⟨by rw [RE.out], B1.out⟩
end Go.Proofs.YtmnhbokiibaopaaDoor
