/-
  expr.mayHold, the closure of expr.kindOf, expr.kindOf, expr.Right.
-/
import Derived.Test.YtgidlgmnkjoofaaDoorPd
namespace Go.Proofs.YtgidlgmnkjoofaaDoor
open Go.RowKit
set_option linter.unusedVariables false
def mayH (o : Nat) (N k : Int) : Bool := if o = 1 then decide (0 ≤ N) && decide (N ≤ 1048576) else if o = 2 then decide (0 ≤ N) && decide (N < k) else decide (N = 0)
set_option maxRecDepth 100000 in
theorem mayHold_any (o : Nat) (N k : Int) (w : World) : Calls Tryd.prog 63 #[nodeV (o, N), .int .i64 k] w fun e w' => e = .returned (.bool (mayH o N k)) ∧ Below w.heap.size w w' := by
  have S := hideR (single w (.cells #[.int .u8 (o : Int), .int .i64 N] 54))
  unfold mayH
  by_cases c1 : o = 1
  · subst c1
    rw [if_pos rfl]
    by_cases g : 0 ≤ N
    · have d : decide (0 ≤ N) = true := decide_eq_true g
      rw [d, Bool.true_and]
      go_enter Tryd.func63, Tryd.ntmps63
      go_wp2_with fail
      all_goals go_ret
      all_goals exact ⟨rfl, S.out⟩
    · have d : decide (0 ≤ N) = false := decide_eq_false g
      rw [d, Bool.false_and]
      go_enter Tryd.func63, Tryd.ntmps63
      go_wp2_with fail
      all_goals go_ret
      all_goals exact ⟨rfl, S.out⟩
  · rw [if_neg c1]
    have i1 : ((o : Int) == 1) = false := by simp; omega
    by_cases c2 : o = 2
    · subst c2
      rw [if_pos rfl]
      by_cases g : 0 ≤ N
      · have d : decide (0 ≤ N) = true := decide_eq_true g
        rw [d, Bool.true_and]
        go_enter Tryd.func63, Tryd.ntmps63
        go_wp2_with fail
        all_goals go_ret
        all_goals exact ⟨rfl, S.out⟩
      · have d : decide (0 ≤ N) = false := decide_eq_false g
        rw [d, Bool.false_and]
        go_enter Tryd.func63, Tryd.ntmps63
        go_wp2_with fail
        all_goals go_ret
        all_goals exact ⟨rfl, S.out⟩
    · rw [if_neg c2]
      have i2 : ((o : Int) == 2) = false := by simp; omega
      go_enter Tryd.func63, Tryd.ntmps63
      go_wp2_with fail
      all_goals go_ret
      all_goals exact ⟨by first | rfl | (congr; done) | (simp; done) | skip, S.out⟩
/-- The kind of a node over its parts' kinds. -/
def kindJ (k : Int) (n : Node) (ps : List Nat) : Option Nat :=
  if ps.all (fun p => p == (opR n.1).2.1) then (if (opR n.1).2.2.1 ≠ 0 ∧ mayH n.1 n.2 k = true then some (opR n.1).2.2.1 else none) else none
abbrev AnsK (e : Ending) (o : Option Nat) : Prop := ∃ (t : Nat) (r : Bool), e = .returned (.tuple #[.int .u8 (t : Int), .bool r]) ∧ o = if r then some t else none
theorem all_no {ps : List Nat} {tk j : Nat} (h : j < ps.length) (e : ¬ ps[j]'h = tk) : ps.all (fun p => p == tk) = false := by
  rw [List.all_eq_false]
  exact ⟨_, List.getElem_mem h, by simpa using e⟩
theorem all_yes {ps : List Nat} {tk : Nat} (e : ∀ j (h : j < ps.length), ps[j]'h = tk) : ps.all (fun p => p == tk) = true := by
  rw [List.all_eq_true]
  intro x hx
  obtain ⟨j, hj, rfl⟩ := List.getElem_of_mem hx
  simpa using e j hj
set_option maxRecDepth 100000 in
set_option maxHeartbeats 2000000 in
theorem kindClo (k : Int) (o : Nat) (N : Int) (ps : List Nat) (ad : Option Addr) (cap kb : Nat) (w : World) (ho : o < 256) (hT : OpsT w) (hk : w.cell? ⟨kb, 0, none⟩ = some (.int .i64 k)) (hR : RowV w ad (ps.flatMap KindC)) (hl : ps.length ≤ 64) :
    Calls Tryd.prog 62 #[nodeV (o, N), .slice ad ps.length cap, .pointer (some ⟨kb, 0, none⟩)] w fun e w' => AnsK e (kindJ k (o, N) ps) ∧ Below w.heap.size w w' := by
  have OP := hideR (operatorOf_any o ho _ (ops_later hT (single w (.cells #[.int .u8 (o : Int), .int .i64 N] 54))))
  have S0 := hideR (single w (.cells #[.int .u8 (o : Int), .int .i64 N] 54))
  have MH := hideR (fun w => mayHold_any o N k w)
  have HR := hideR hR
  have KJ : Hid (kindJ k (o, N) ps = if ps.all (fun p => p == (opR o).2.1) then (if (opR o).2.2.1 ≠ 0 ∧ mayH o N k = true then some (opR o).2.2.1 else none) else none) := rfl
  have b0 : (w.alloc (.cells #[.int .u8 (o : Int), .int .i64 N] 54)).cell? ⟨w.heap.size, 0, none⟩ = some (.int .u8 (o : Int)) := by simp [go_sem]
  have b1 : (w.alloc (.cells #[.int .u8 (o : Int), .int .i64 N] 54)).cell? ⟨w.heap.size, 1, none⟩ = some (.int .i64 N) := by simp [go_sem]
  have B0 := hideR b0
  have B1 := hideR b1
  clear hT hR b0 b1
  generalize kindJ k (o, N) ps = KV at *
  dsimp only [opV] at OP
  generalize opR o = r at *
  obtain ⟨p, tk, kd, sg, bd⟩ := r
  simp only at KJ
  generalize mayH o N k = mh at *
  generalize hm : ps.length = m at *
  have HM := hideR hm
  clear hm
  go_enter Tryd.func62, Tryd.ntmps62
  go_wp2_with fail
  refine OP.out.mono ?_
  rintro e w1 ⟨rfl, hb⟩
  have hB := beyond S0.out hb
  have b0 := kc _ _ hb B0.out
  have b1 := kc _ _ hb B1.out
  have hk1 := kc _ _ hB hk
  clear hb B0 B1 S0 OP hk
  go_upto_region 2 with (fail)
  have hb2 := single w1 (.cells #[.int .i64 (p : Int), .int .u8 (tk : Int), .int .u8 (kd : Int), .string ⟨sg.toArray⟩, .int .i64 (bd : Int)] 126)
  have t1 : (w1.alloc (.cells #[.int .i64 (p : Int), .int .u8 (tk : Int), .int .u8 (kd : Int), .string ⟨sg.toArray⟩, .int .i64 (bd : Int)] 126)).cell? ⟨w1.heap.size, 1, none⟩ = some (.int .u8 (tk : Int)) := by simp [go_sem]
  have t2 : (w1.alloc (.cells #[.int .i64 (p : Int), .int .u8 (tk : Int), .int .u8 (kd : Int), .string ⟨sg.toArray⟩, .int .i64 (bd : Int)] 126)).cell? ⟨w1.heap.size, 2, none⟩ = some (.int .u8 (kd : Int)) := by simp [go_sem]
  have c0 := kc _ _ hb2 b0
  have c1 := kc _ _ hb2 b1
  have c2 := kc _ _ hb2 hk1
  have HB2 := hideR (beyond hB hb2)
  have HR2 := hideR (HR.out.later HB2.out)
  clear hb2 b0 b1 hk1 hB HR
  generalize w1.alloc (.cells #[.int .i64 (p : Int), .int .u8 (tk : Int), .int .u8 (kd : Int), .string ⟨sg.toArray⟩, .int .i64 (bd : Int)] 126) = W at *
  generalize w1.heap.size = B at *
  go_wp2_with fail
  go_loopw [15] (fun i wr => ∃ (j : Nat), j ≤ m ∧ i = .int .i64 j ∧ wr = W ∧ Hid (∀ i (h : i < ps.length), i < j → ps[i]'h = tk)) (fun i _ => m - (intOf i).toNat)
  case atStart => exact ⟨0, by omega, rfl, rfl, fun i _ h => by omega⟩
  case round =>
    obtain ⟨j, hj, rfl, rfl, E⟩ := hrel
    by_cases cj : j < m
    · have jl : j < ps.length := by rw [HM.out]; exact cj
      obtain ⟨b, off, rfl, cc⟩ := rowV_at (s := 1) (fun _ => rfl) HR2.out (by decide) jl
      have x0 := cc 0 (by decide)
      simp only [KindC, List.getElem?_cons_zero, Nat.mul_one, Nat.add_zero] at x0
      clear cc
      have i1 : (j : Int) < (m : Int) := by omega
      have e1 : IntKind.i64.wrap ((j : Int) + 1) = (j : Int) + 1 := by rw [IntKind.wrap_i64]; omega
      by_cases ce : ps[j]'jl = tk
      · have E2 : Hid (∀ i (h : i < ps.length), i < j + 1 → ps[i]'h = tk) := fun i h hi => by
          by_cases q : i = j
          · subst q; exact ce
          · exact E.out i h (by omega)
        rw [ce] at x0
        clear ce E
        go_wp2_with fail
        go_roundw
        case rel => exact ⟨j + 1, by omega, by go_num, by first | rfl | trivial, E2⟩
        case measure => simp [intOf]; omega
      · rw [all_no jl ce] at KJ
        have n1 : ¬ ((ps[j]'jl : Nat) : Int) = (tk : Int) := by omega
        have n2 : (((ps[j]'jl : Nat) : Int) == (tk : Int)) = false := by simpa using n1
        clear E ce
        generalize ps[j]'jl = x at *
        go_wp2_with fail
        exact bodyPost_ret (v := .tuple #[.int .u8 0, .bool false]) (by simp [results, Tryd.results62, go_sem]) rfl ⟨⟨0, false, rfl, KJ.out⟩, HB2.out⟩
    · obtain rfl : j = m := by omega
      rw [all_yes (fun i h => E.out i h (by rw [← HM.out]; exact h))] at KJ
      simp only [if_true] at KJ
      clear E
      by_cases ck : kd = 0
      · subst ck
        rw [if_neg (by simp)] at KJ
        go_wp2_with fail
        go_quiet (fail)
        go_wp2_with fail
        exact bodyPost_ret (v := .tuple #[.int .u8 0, .bool false]) (by simp [results, Tryd.results62, go_sem]) rfl ⟨⟨0, false, rfl, KJ.out⟩, below_drewN HB2.out _⟩
      · have g1 : ((kd : Int) == 0) = false := by simp; omega
        have g2 : ¬ (kd : Int) = 0 := by omega
        have g3 : ((kd : Int) != 0) = true := by simp; omega
        go_wp2_with fail
        go_region_held3 (fun w' => w'.cell? ⟨B, 2, none⟩ = some (.int .u8 (kd : Int)) ∧ w'.cell? ⟨w.heap.size, 0, none⟩ = some (.int .u8 (o : Int)) ∧ w'.cell? ⟨w.heap.size, 1, none⟩ = some (.int .i64 N) ∧ w'.cell? ⟨kb, 0, none⟩ = some (.int .i64 k))
          (first | exact ⟨by assumption, by assumption, by assumption, by assumption⟩ | go_keep)
          (first | (go_at_call 63; refine (MH.out _).mono ?_; rintro e w' ⟨rfl, hb⟩; have s0 := kc ⟨B, 2, none⟩ (.int .u8 (kd : Int)) hb (by assumption); have s1 := kc ⟨w.heap.size, 0, none⟩ (.int .u8 (o : Int)) hb (by assumption); have s2 := kc ⟨w.heap.size, 1, none⟩ (.int .i64 N) hb (by assumption); have s3 := kc ⟨kb, 0, none⟩ (.int .i64 k) hb (by assumption); have s4 := beyond (w := w) (by first | exact HB2.out | exact Below.drew HB2.out) hb))
        all_goals go_wp2_with fail
        all_goals exact bodyPost_ret (v := .tuple #[.int .u8 (kd : Int), .bool mh]) (by simp [results, Tryd.results62, go_sem]) rfl ⟨⟨kd, mh, rfl, by rw [KJ.out]; cases mh <;> simp [ck]⟩, by assumption⟩
/-- The kind of a list of nodes over k variables, if it is right. -/
def kindL (k : Int) (l : List Node) : Option Nat := if 64 < l.length then none else foldL (kindJ k) l
theorem node_mem {l l' : List Node} {k : Nat} {x : Node} (h : l.drop k = x :: l') : x ∈ l := by
  have : x ∈ l.drop k := by rw [h]; exact List.mem_cons_self
  exact List.mem_of_mem_drop this
set_option maxRecDepth 100000 in
set_option maxHeartbeats 2000000 in
theorem kindOf_any (ad : Option Addr) (cap : Nat) (l : List Node) (k : Int) (w : World) (hT : OpsT w) (hV : RowV w ad (l.flatMap NodeC)) (hI : ∀ n ∈ l, n.1 < 256) :
    Calls Tryd.prog 42 #[.slice ad l.length cap, .int .i64 k] w fun e w' => AnsK e (kindL k l) ∧ Below w.heap.size w w' := by
  unfold kindL
  by_cases c : 64 < l.length
  · rw [if_pos c]
    have c' : (64 : Int) < (l.length : Int) := by omega
    have S := hideR (single w (.cells #[.int .i64 k] 3))
    clear hT hV hI
    generalize l.length = n at *
    go_enter Tryd.func42, Tryd.ntmps42
    go_wp2_with fail
    exact bodyPost_ret (v := .tuple #[.int .u8 0, .bool false]) (by simp [results, Tryd.results42, go_sem]) rfl ⟨⟨0, false, rfl, rfl⟩, S.out⟩
  · rw [if_neg c]
    have c' : ¬ (64 : Int) < (l.length : Int) := by omega
    have S := hideR (single w (.cells #[.int .i64 k] 3))
    have F := hideR (foldK ad cap l (kindJ k) (.pointer (some ⟨w.heap.size, 0, none⟩)) (w.alloc (.cells #[.int .i64 k] 3)) (ops_later hT S.out) (hV.later S.out) (by omega) hI (by
      intro i x l' hd s hs hp ad' cap' W hb hr
      have hlen : (s.take (pt x)).length = pt x := by rw [List.length_take]; omega
      have := kindClo k x.1 x.2 (s.take (pt x)) ad' cap' w.heap.size W (hI x (node_mem hd)) (ops_later hT (beyond S.out hb)) (kc _ _ hb (by simp [go_sem])) hr (by rw [hlen]; have := pt_le x; omega)
      rw [hlen] at this
      exact this))
    clear hT hV hI c
    generalize l.length = n at *
    generalize foldL (kindJ k) l = KV at *
    go_enter Tryd.func42, Tryd.ntmps42
    go_wp2_with fail
    refine F.out.mono ?_
    rintro e w1 ⟨⟨t, r, rfl, hr⟩, hb⟩
    clear F
    have HB := hideR (beyond S.out hb)
    have HR := hideR hr
    clear hb hr
    go_wp2_with fail
    exact bodyPost_ret (v := .tuple #[.int .u8 (t : Int), .bool r]) (by simp [results, Tryd.results42, go_sem]) rfl ⟨⟨t, r, rfl, HR.out⟩, HB.out⟩
/-- Whether it is right: the error. -/
def rightE (k : Int) (l : List Node) : Int := if (kindL k l).isSome then 0 else 121
theorem right_any (ad : Option Addr) (cap : Nat) (l : List Node) (k : Int) (w : World) (hT : OpsT w) (hV : RowV w ad (l.flatMap NodeC)) (hI : ∀ n ∈ l, n.1 < 256) :
    Calls Tryd.prog 20 #[.slice ad l.length cap, .int .i64 k] w fun e w' => e = .returned (.int .i64 (rightE k l)) ∧ Below w.heap.size w w' := by
  have F := hideR (kindOf_any ad cap l k w hT hV hI)
  unfold rightE
  clear hT hV hI
  generalize l.length = n at *
  generalize kindL k l = KV at *
  go_enter Tryd.func20, Tryd.ntmps20
  go_wp2_with fail
  refine F.out.mono ?_
  rintro e w1 ⟨⟨t, r, rfl, hr⟩, hb⟩
  clear F
  have HB := hideR hb
  clear hb
  cases r with
  | false =>
    subst hr
    go_wp2_with fail
    go_ret
    exact ⟨rfl, HB.out⟩
  | true =>
    subst hr
    go_wp2_with fail
    go_ret
    exact ⟨rfl, HB.out⟩
end Go.Proofs.YtgidlgmnkjoofaaDoor
