/-
  IsTruth, of the program and of the document; the walk of ExprRights.
-/
import Derived.Test.YtmnhbokiibaopaaDoorQq
import Derived.Test.YtmnhbokiibaopaaDoorQl
import Derived.Test.YtmnhbokiibaopaaDoorQa
namespace Go.Proofs.YtmnhbokiibaopaaDoor
open Go.RowKit
set_option linter.unusedVariables false
theorem run_kind (w : World) (a b c d e : Value) : (Instr.field 74 (.agg #[a, b, c, d, e]) 2).run Tryd.prog w = .ok c w := by
  simp [Instr.field, run_underlying Tryd.underlying74, asAgg, part, go_sem]
attribute [local go_sem] run_kind
def isTr (l : List Node) : Bool := match l with
  | [] => false
  | n :: _ => truthO n.1
theorem kind_truth (o : Nat) : ((opR o).2.2.1 == 2) = truthO o := by
  by_cases c : o < 15
  · have : ∀ o : Nat, o < 15 → ((opR o).2.2.1 == 2) = truthO o := by decide
    exact this o c
  · rw [opR_out o (by omega)]
    unfold truthO
    rw [decide_eq_false (show ¬ o ≤ 14 by omega), Bool.and_false]
    rfl
set_option maxRecDepth 100000 in
theorem istruth_any (ad : Option Addr) (cap : Nat) (l : List Node) (w : World) (hT : OpsT w) (hV : RowV w ad (l.flatMap NodeC)) (hI : ∀ n ∈ l, n.1 < 256) :
    Calls Tryd.prog 15 #[.slice ad l.length cap] w fun e w' => e = .returned (.bool (isTr l)) ∧ Below w.heap.size w w' := by
  cases l with
  | nil =>
    clear hV hI hT
    go_enter Tryd.func15, Tryd.ntmps15
    go_wp2_with fail
    go_ret
    exact ⟨rfl, Below.refl _ _⟩
  | cons x r =>
    obtain ⟨b, off, rfl, x0, _⟩ := nodes_at hV (k := 0) (by simp)
    obtain ⟨o, N⟩ := x
    have OP := hideR (operatorOf_any o (hI (o, N) List.mem_cons_self) w hT)
    have KT := hideR (kind_truth o)
    have h1 : (0 : Int) < (((o, N) :: r).length : Int) := by simp
    simp only [List.getElem_cons_zero, Nat.zero_mul, Nat.add_zero] at x0
    clear hV hI hT
    unfold isTr
    simp only
    generalize ((o, N) :: r).length = n at *
    generalize truthO o = tb at *
    dsimp only [opV] at OP
    generalize opR o = q at *
    obtain ⟨p, tk, kk, sg, bd⟩ := q
    simp only at KT
    go_enter Tryd.func15, Tryd.ntmps15
    go_wp2_with fail
    refine OP.out.mono ?_
    rintro e w1 ⟨rfl, hb⟩
    have B1 := hideR hb
    clear hb OP
    have kz : ((kk : Int) == 2) = tb := by
      rw [← KT.out]
      by_cases q : kk = 2
      · subst q; rfl
      · have h1 : ((kk : Int) == 2) = false := by simp; omega
        have h2 : (kk == 2) = false := by simpa using q
        rw [h1, h2]
    clear KT
    go_wp2_with fail
    exact bodyPost_ret (v := .bool tb) (by simp [results, Tryd.results15, go_sem]) rfl ⟨rfl, B1.out⟩
set_option maxRecDepth 100000 in
theorem ristruth_any (ad : Option Addr) (cap : Nat) (l : List Node) (w : World) (hV : RowV w ad (l.flatMap NodeC)) :
    Calls Tryd.prog 16 #[.slice ad l.length cap] w fun e w' => e = .returned (.bool (isTr l)) ∧ Below w.heap.size w w' := by
  cases l with
  | nil =>
    clear hV
    go_enter Tryd.func16, Tryd.ntmps16
    go_wp2_with fail
    go_ret
    exact ⟨rfl, Below.refl _ _⟩
  | cons x r =>
    obtain ⟨b, off, rfl, x0, _⟩ := nodes_at hV (k := 0) (by simp)
    obtain ⟨o, N⟩ := x
    have OP := hideR (truth_any o w)
    have h1 : (0 : Int) < (((o, N) :: r).length : Int) := by simp
    simp only [List.getElem_cons_zero, Nat.zero_mul, Nat.add_zero] at x0
    clear hV
    unfold isTr
    simp only
    generalize ((o, N) :: r).length = n at *
    generalize truthO o = tb at *
    go_enter Tryd.func16, Tryd.ntmps16
    go_wp2_with fail
    refine OP.out.mono ?_
    rintro e w1 ⟨rfl, hb⟩
    have B1 := hideR hb
    clear hb OP
    go_wp2_with fail
    exact bodyPost_ret (v := .bool tb) (by simp [results, Tryd.results16, go_sem]) rfl ⟨rfl, B1.out⟩
set_option maxRecDepth 100000 in
set_option maxHeartbeats 2000000 in
theorem exprRights.inner (ad : Option Addr) (ac : Nat) (a : List Node) (k at_ : Int) (hat : inR at_) (w : World) (hT : OpsT w) (hP : Pow w) (hA : RowV w ad (a.flatMap NodeC)) (hIa : ∀ n ∈ a, n.1 < 256) (la : a.length * 16 ≤ 140737488355328) :
    Calls Tryd.prog 3 #[.slice ad a.length ac, .int .i64 k, .int .i64 at_] w fun e w' => e = .returned (.bool true) ∧ Below w.heap.size w w' := by
  have HA := hideR (hand_nodes ad ac (ndsOf a) w (nds_row hA) la)
  have LV : Hid (∀ W, Below w.heap.size w W → Calls Tryd.prog 10 #[] W fun e w' => e = .returned (.bool true) ∧ Below W.heap.size W w') := fun W hb => live_any W (ops_later hT hb) (pow_later hP hb)
  have E1 : Hid (∀ W od oc, Below w.heap.size w W → RowV W od (a.flatMap NodeC) → Calls Tryd.prog 11 #[.slice od a.length oc, .int .i64 at_] W fun e w' => e = .returned (.int .i64 (endL a at_ : Int)) ∧ Below W.heap.size W w') := fun W od oc hb hr => end_any od oc a at_ hat W (ops_later hT hb) hr hIa la
  have E2 : Hid (∀ W, Below w.heap.size w W → Calls Tryd.prog 12 #[.slice ad a.length ac, .int .i64 at_] W fun e w' => e = .returned (.int .i64 (endL a at_ : Int)) ∧ Below W.heap.size W w') := fun W hb => rend_any ad ac a at_ hat W (hA.later hb) hIa la
  have R1 : Hid (∀ W od oc, Below w.heap.size w W → RowV W od (a.flatMap NodeC) → Calls Tryd.prog 13 #[.slice od a.length oc, .int .i64 k] W fun e w' => e = .returned (.int .i64 (rightE k a)) ∧ Below W.heap.size W w') := fun W od oc hb hr => right_any od oc a k W (ops_later hT hb) hr hIa
  have R2 : Hid (∀ W, Below w.heap.size w W → Calls Tryd.prog 14 #[.slice ad a.length ac, .int .i64 k] W fun e w' => e = .returned (.int .i64 (rightE k a)) ∧ Below W.heap.size W w') := fun W hb => rright_any ad ac a k W (hA.later hb) hIa la
  have T1 : Hid (∀ W od oc, Below w.heap.size w W → RowV W od (a.flatMap NodeC) → Calls Tryd.prog 15 #[.slice od a.length oc] W fun e w' => e = .returned (.bool (isTr a)) ∧ Below W.heap.size W w') := fun W od oc hb hr => istruth_any od oc a W (ops_later hT hb) hr hIa
  have T2 : Hid (∀ W, Below w.heap.size w W → Calls Tryd.prog 16 #[.slice ad a.length ac] W fun e w' => e = .returned (.bool (isTr a)) ∧ Below W.heap.size W w') := fun W hb => ristruth_any ad ac a W (hA.later hb)
  have KP : Hid (∀ W g, Below w.heap.size w W → NdsV W (some ⟨g, 0, none⟩) (roomy (ndsOf a)) → Calls Tryd.prog 17 #[.slice (some ⟨g, 0, none⟩) a.length (a.length + 9), .slice ad a.length ac] W fun e w' => e = .returned (.bool true) ∧ Below W.heap.size W w') := fun W g hb hr => kept_nds g ad ac (ndsOf a) W hr (nds_row (hA.later hb)) la
  have RO : Hid (∀ W g, NdsV W (some ⟨g, 0, none⟩) (roomy (ndsOf a)) → RowV W (some ⟨g, 0, none⟩) (a.flatMap NodeC)) := fun W g h => row_nds (roomy_of h)
  change Hid (Calls Tryd.prog 9 #[.slice ad a.length ac] w fun e w' => e = .returned (.slice (some ⟨w.heap.size, 0, none⟩) a.length (a.length + 9)) ∧ NdsV w' (some ⟨w.heap.size, 0, none⟩) (roomy (ndsOf a)) ∧ w.heap.size < w'.heap.size ∧ Below w.heap.size w w') at HA
  clear hT hP hA hIa la hat
  generalize rightE k a = rr at *
  generalize isTr a = tt at *
  generalize endL a at_ = ee at *
  generalize roomy (ndsOf a) = RM at *
  generalize a.flatMap NodeC = AC at *
  generalize a.length = n at *
  generalize n + 9 = n9 at *
  go_enter Tryd.func3, Tryd.ntmps3
  go_wp2_with fail
  refine HA.out.mono ?_
  rintro e w1 ⟨rfl, hr, _, hb⟩
  have RMV := hideR hr
  have RW := hideR (RO.out _ _ hr)
  have B1 := hideR hb
  have S1 := hideR (Below.refl w1.heap.size w1)
  clear hb hr RO HA
  go_wp2_with fail
  refine (LV.out _ B1.out).mono ?_
  rintro e w2 ⟨rfl, hb⟩
  have B2 := hideR (beyond B1.out hb)
  have S2 := hideR (beyond S1.out hb)
  clear hb
  go_wp2_with fail
  refine (E1.out _ _ _ B2.out (RW.out.later S2.out)).mono ?_
  rintro e w3 ⟨rfl, hb⟩
  have B3 := hideR (beyond B2.out hb)
  have S3 := hideR (beyond S2.out hb)
  clear hb
  go_wp2_with fail
  refine (E2.out _ B3.out).mono ?_
  rintro e w4 ⟨rfl, hb⟩
  have B4 := hideR (beyond B3.out hb)
  have S4 := hideR (beyond S3.out hb)
  clear hb
  go_wp2_with fail
  refine (R1.out _ _ _ B4.out (RW.out.later S4.out)).mono ?_
  rintro e w5 ⟨rfl, hb⟩
  have B5 := hideR (beyond B4.out hb)
  have S5 := hideR (beyond S4.out hb)
  clear hb
  go_wp2_with fail
  refine (R2.out _ B5.out).mono ?_
  rintro e w6 ⟨rfl, hb⟩
  have B6 := hideR (beyond B5.out hb)
  have S6 := hideR (beyond S5.out hb)
  clear hb
  go_wp2_with fail
  refine (T1.out _ _ _ B6.out (RW.out.later S6.out)).mono ?_
  rintro e w7 ⟨rfl, hb⟩
  have B7 := hideR (beyond B6.out hb)
  have S7 := hideR (beyond S6.out hb)
  clear hb
  have tq : (tt == tt) = true := by simp
  go_wp2_with fail
  refine (T2.out _ B7.out).mono ?_
  rintro e w8 ⟨rfl, hb⟩
  have B8 := hideR (beyond B7.out hb)
  have S8 := hideR (beyond S7.out hb)
  clear hb
  go_wp2_with fail
  refine (KP.out _ _ B8.out (RMV.out.later S8.out)).mono ?_
  rintro e w9 ⟨rfl, hb⟩
  have B9 := hideR (beyond B8.out hb)
  have S9 := hideR (beyond S8.out hb)
  clear hb
  go_wp2_with fail
  go_ret
  exact ⟨rfl, B9.out⟩
theorem exprRights.walk (v0 : Value) (a : List Node) (k : Int) (hk : (Lit.int .i64 k).wf = true) (at_ : Int) (hat : (Lit.int .i64 at_).wf = true) (w : World) (hT : OpsT w) (hP : Pow w) (h0 : NodeS w v0 a) (wf0 : ∀ n ∈ a, n.1 < 256 ∧ inR n.2) (by0 : a.length * 16 ≤ 140737488355328) :
    Calls Tryd.prog 3 #[v0, .int .i64 k, .int .i64 at_] w fun e w' => e = .returned (.bool true) ∧ Below w.heap.size w w' := by
  obtain ⟨ad0, c0, rfl, r0⟩ := h0
  exact exprRights.inner ad0 c0 a k at_ (wf_inR hat) w hT hP r0 (fun n hn => (wf0 n hn).1) by0
end Go.Proofs.YtmnhbokiibaopaaDoor
