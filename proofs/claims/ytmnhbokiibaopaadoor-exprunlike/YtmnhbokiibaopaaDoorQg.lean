/-
  expr.Same, and the document's Same.
-/
import Derived.Test.YtmnhbokiibaopaaDoorPm
namespace Go.Proofs.YtmnhbokiibaopaaDoor
open Go.RowKit
set_option linter.unusedVariables false
theorem nodes_at {W : World} {ad : Option Addr} {l : List Node} (h : RowV W ad (l.flatMap NodeC)) {k : Nat} (hk : k < l.length) : ∃ b off, ad = some ⟨b, off, none⟩ ∧ W.cell? ⟨b, off + k * 2, none⟩ = some (.int .u8 ((l[k]'hk).1 : Int)) ∧ W.cell? ⟨b, off + k * 2 + 1, none⟩ = some (.int .i64 (l[k]'hk).2) := by
  obtain ⟨b, off, e, cc⟩ := rowV_at (s := 2) (fun _ => rfl) h (by decide) hk
  have x0 := cc 0 (by decide)
  have x1 := cc 1 (by decide)
  simp only [NodeC, List.getElem?_cons_zero, List.getElem?_cons_succ, Nat.add_zero] at x0 x1
  exact ⟨b, off, e, x0, by rw [Nat.add_assoc]; exact x1⟩
theorem lists_eq {a b : List Node} (h : a.length = b.length) (e : ∀ i (ha : i < a.length) (hb : i < b.length), a[i]'ha = b[i]'hb) : a = b := List.ext_getElem h e
set_option maxRecDepth 100000 in
set_option maxHeartbeats 1000000 in
theorem equal_any (ad : Option Addr) (ac : Nat) (a : List Node) (bd : Option Addr) (bc : Nat) (b : List Node) (w : World) (hA : RowV w ad (a.flatMap NodeC)) (hB : RowV w bd (b.flatMap NodeC)) (la : a.length * 16 ≤ 140737488355328) (lb : b.length * 16 ≤ 140737488355328) :
    Calls Tryd.prog 66 #[.slice ad a.length ac, .slice bd b.length bc] w fun e w' => e = .returned (.bool (decide (a = b))) ∧ Below w.heap.size w w' := by
  by_cases c : a.length = b.length
  · have HA := hideR hA
    have HB := hideR hB
    clear hA hB lb
    generalize hn : a.length = n at *
    have HN := hideR hn
    have HNb : Hid (b.length = n) := c.symm
    clear hn
    rw [← c]
    clear c
    have B0 := hideR (Below.refl w.heap.size w)
    go_enter Tryd.func66, Tryd.ntmps66
    go_wp2_with fail
    go_loopw [13] (fun s wr => ∃ (J : Nat), J ≤ n ∧ s = .int .i64 J ∧ Hid (Below w.heap.size w wr ∧ ∀ i (ha : i < a.length) (hb : i < b.length), i < J → a[i]'ha = b[i]'hb)) (fun s _ => n - (intOf s).toNat)
    case atStart => exact ⟨0, by omega, rfl, B0.out, fun i _ _ h => absurd h (Nat.not_lt_zero _)⟩
    case round =>
      obtain ⟨J, hJ, rfl, E⟩ := hrel
      clear B0
      by_cases cj : J < n
      · have ja : J < a.length := by rw [HN.out]; exact cj
        have jb : J < b.length := by rw [HNb.out]; exact cj
        obtain ⟨b1, off1, rfl, c1, c2⟩ := nodes_at (HA.out.later E.out.1) ja
        obtain ⟨b2, off2, rfl, c3, c4⟩ := nodes_at (HB.out.later E.out.1) jb
        have k0 : (0 : Int) ≤ (J : Int) := by omega
        have k1 : (J : Int) < (n : Int) := by omega
        have e1 : IntKind.i64.wrap ((J : Int) + 1) = (J : Int) + 1 := by rw [IntKind.wrap_i64]; omega
        by_cases ce : a[J]'ja = b[J]'jb
        · have E2 : Hid (∀ i (ha : i < a.length) (hb : i < b.length), i < J + 1 → a[i]'ha = b[i]'hb) := fun i ha hb hi => by
            by_cases q : i = J
            · subst q; exact ce
            · exact E.out.2 i ha hb (by omega)
          have B := hideR E.out.1
          rw [← ce] at c3 c4
          clear ce E
          generalize a[J]'ja = nd at *
          obtain ⟨u, v⟩ := nd
          simp only at c1 c2 c3 c4
          go_wp2_with fail
          go_quiet (fail)
          go_wp2_with fail
          go_roundw
          case rel => exact ⟨J + 1, by omega, by go_num, ⟨by first | exact B.out | exact Below.drew B.out | exact below_drewN B.out _, E2.out⟩⟩
          case measure => first | (simp [intOf]; done) | (simp [intOf]; omega)
        · have ne : Hid (decide (a = b) = false) := decide_eq_false (fun q => ce (by subst q; rfl))
          have B := hideR E.out.1
          clear E
          generalize a[J]'ja = na at *
          generalize b[J]'jb = nb at *
          obtain ⟨u, v⟩ := na
          obtain ⟨u', v'⟩ := nb
          simp only at c1 c2 c3 c4
          by_cases cu : u = u'
          · subst cu
            have cv : ¬ v = v' := fun q => ce (by rw [q])
            have cw : (v == v') = false := by simpa using cv
            clear ce
            go_wp2_with fail
            go_quiet (fail)
            go_wp2_with fail
            exact bodyPost_ret (v := .bool false) (by simp [results, Tryd.results66, go_sem]) rfl ⟨by rw [ne.out], by first | exact B.out | exact Below.drew B.out | exact below_drewN B.out _⟩
          · have cv : ¬ (u : Int) = (u' : Int) := by omega
            have cw : ((u : Int) == (u' : Int)) = false := by simpa using cv
            clear ce
            go_wp2_with fail
            go_quiet (fail)
            go_wp2_with fail
            exact bodyPost_ret (v := .bool false) (by simp [results, Tryd.results66, go_sem]) rfl ⟨by rw [ne.out], by first | exact B.out | exact Below.drew B.out | exact below_drewN B.out _⟩
      · obtain rfl : J = n := by omega
        have yes : Hid (decide (a = b) = true) := decide_eq_true (lists_eq (by rw [HN.out, HNb.out]) (fun i ha hb => E.out.2 i ha hb (by have := HN.out; omega)))
        go_wp2_with fail
        exact bodyPost_ret (v := .bool true) (by simp [results, Tryd.results66, go_sem]) rfl ⟨by rw [yes.out], E.out.1⟩
  · have c1 : ¬ (a.length : Int) = (b.length : Int) := by omega
    have c2 : ((a.length : Int) == (b.length : Int)) = false := by simpa using c1
    have c3 : decide (a = b) = false := decide_eq_false (fun q => c (by rw [q]))
    rw [c3]
    clear hA hB c3 c
    generalize a.length = n at *
    generalize b.length = m at *
    go_enter Tryd.func66, Tryd.ntmps66
    go_wp2_with fail
    go_ret
    exact ⟨rfl, Below.refl _ _⟩
set_option maxRecDepth 100000 in
theorem same_any (ad : Option Addr) (ac : Nat) (a : List Node) (bd : Option Addr) (bc : Nat) (b : List Node) (w : World) (hA : RowV w ad (a.flatMap NodeC)) (hB : RowV w bd (b.flatMap NodeC)) (la : a.length * 16 ≤ 140737488355328) (lb : b.length * 16 ≤ 140737488355328) :
    Calls Tryd.prog 35 #[.slice ad a.length ac, .slice bd b.length bc] w fun e w' => e = .returned (.bool (decide (a = b))) ∧ Below w.heap.size w w' := by
  have F := hideR (equal_any ad ac a bd bc b w hA hB la lb)
  clear hA hB la lb
  generalize decide (a = b) = r at *
  generalize a.length = n at *
  generalize b.length = m at *
  go_enter Tryd.func35, Tryd.ntmps35
  go_wp2_with fail
  refine F.out.mono ?_
  rintro e w1 ⟨rfl, hb⟩
  have B := hideR hb
  clear hb F
  go_wp2_with fail
  exact bodyPost_ret (v := .bool r) (by simp [results, Tryd.results35, go_sem]) rfl ⟨rfl, B.out⟩
set_option maxRecDepth 100000 in
set_option maxHeartbeats 1000000 in
theorem rsame_any (ad : Option Addr) (ac : Nat) (a : List Node) (bd : Option Addr) (bc : Nat) (b : List Node) (w : World) (hA : RowV w ad (a.flatMap NodeC)) (hB : RowV w bd (b.flatMap NodeC)) (la : a.length * 16 ≤ 140737488355328) (lb : b.length * 16 ≤ 140737488355328) :
    Calls Tryd.prog 36 #[.slice ad a.length ac, .slice bd b.length bc] w fun e w' => e = .returned (.bool (decide (a = b))) ∧ Below w.heap.size w w' := by
  by_cases c : a.length = b.length
  · have HA := hideR hA
    have HB := hideR hB
    clear hA hB lb
    generalize hn : a.length = n at *
    have HN := hideR hn
    have HNb : Hid (b.length = n) := c.symm
    clear hn
    rw [← c]
    clear c
    have B0 := hideR (Below.refl w.heap.size w)
    go_enter Tryd.func36, Tryd.ntmps36
    go_wp2_with fail
    go_loopw [5] (fun s wr => ∃ (J : Nat), J ≤ n ∧ s = .int .i64 J ∧ Hid (Below w.heap.size w wr ∧ ∀ i (ha : i < a.length) (hb : i < b.length), i < J → a[i]'ha = b[i]'hb)) (fun s _ => n - (intOf s).toNat)
    case atStart => exact ⟨0, by omega, rfl, B0.out, fun i _ _ h => absurd h (Nat.not_lt_zero _)⟩
    case round =>
      obtain ⟨J, hJ, rfl, E⟩ := hrel
      clear B0
      by_cases cj : J < n
      · have ja : J < a.length := by rw [HN.out]; exact cj
        have jb : J < b.length := by rw [HNb.out]; exact cj
        obtain ⟨b1, off1, rfl, c1, c2⟩ := nodes_at (HA.out.later E.out.1) ja
        obtain ⟨b2, off2, rfl, c3, c4⟩ := nodes_at (HB.out.later E.out.1) jb
        have k0 : (0 : Int) ≤ (J : Int) := by omega
        have k1 : (J : Int) < (n : Int) := by omega
        have e1 : IntKind.i64.wrap ((J : Int) + 1) = (J : Int) + 1 := by rw [IntKind.wrap_i64]; omega
        by_cases ce : a[J]'ja = b[J]'jb
        · have E2 : Hid (∀ i (ha : i < a.length) (hb : i < b.length), i < J + 1 → a[i]'ha = b[i]'hb) := fun i ha hb hi => by
            by_cases q : i = J
            · subst q; exact ce
            · exact E.out.2 i ha hb (by omega)
          have B := hideR E.out.1
          rw [← ce] at c3 c4
          clear ce E
          generalize a[J]'ja = nd at *
          obtain ⟨u, v⟩ := nd
          simp only at c1 c2 c3 c4
          go_wp2_with fail
          go_quiet (fail)
          go_wp2_with fail
          go_roundw
          case rel => exact ⟨J + 1, by omega, by go_num, ⟨by first | exact B.out | exact Below.drew B.out | exact below_drewN B.out _, E2.out⟩⟩
          case measure => first | (simp [intOf]; done) | (simp [intOf]; omega)
        · have ne : Hid (decide (a = b) = false) := decide_eq_false (fun q => ce (by subst q; rfl))
          have B := hideR E.out.1
          clear E
          generalize a[J]'ja = na at *
          generalize b[J]'jb = nb at *
          obtain ⟨u, v⟩ := na
          obtain ⟨u', v'⟩ := nb
          simp only at c1 c2 c3 c4
          by_cases cu : u = u'
          · subst cu
            have cv : ¬ v = v' := fun q => ce (by rw [q])
            have cw : (v == v') = false := by simpa using cv
            clear ce
            go_wp2_with fail
            go_quiet (fail)
            go_wp2_with fail
            exact bodyPost_ret (v := .bool false) (by simp [results, Tryd.results36, go_sem]) rfl ⟨by rw [ne.out], by first | exact B.out | exact Below.drew B.out | exact below_drewN B.out _⟩
          · have cv : ¬ (u : Int) = (u' : Int) := by omega
            have cw : ((u : Int) == (u' : Int)) = false := by simpa using cv
            clear ce
            go_wp2_with fail
            go_quiet (fail)
            go_wp2_with fail
            exact bodyPost_ret (v := .bool false) (by simp [results, Tryd.results36, go_sem]) rfl ⟨by rw [ne.out], by first | exact B.out | exact Below.drew B.out | exact below_drewN B.out _⟩
      · obtain rfl : J = n := by omega
        have yes : Hid (decide (a = b) = true) := decide_eq_true (lists_eq (by rw [HN.out, HNb.out]) (fun i ha hb => E.out.2 i ha hb (by have := HN.out; omega)))
        go_wp2_with fail
        exact bodyPost_ret (v := .bool true) (by simp [results, Tryd.results36, go_sem]) rfl ⟨by rw [yes.out], E.out.1⟩
  · have c1 : ¬ (a.length : Int) = (b.length : Int) := by omega
    have c2 : ((a.length : Int) == (b.length : Int)) = false := by simpa using c1
    have c3 : decide (a = b) = false := decide_eq_false (fun q => c (by rw [q]))
    rw [c3]
    clear hA hB c3 c
    generalize a.length = n at *
    generalize b.length = m at *
    go_enter Tryd.func36, Tryd.ntmps36
    go_wp2_with fail
    go_ret
    exact ⟨rfl, Below.refl _ _⟩
end Go.Proofs.YtmnhbokiibaopaaDoor
