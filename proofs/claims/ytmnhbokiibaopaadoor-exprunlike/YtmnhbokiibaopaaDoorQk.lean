/-
  Where a tree ends: expr.End, and the document's End.
-/
import Derived.Test.YtmnhbokiibaopaaDoorQj
namespace Go.Proofs.YtmnhbokiibaopaaDoor
open Go.RowKit
set_option linter.unusedVariables false
attribute [local go_sem] run_parts
/-- The place behind a tree, for every place. -/
def endL (l : List Node) (a : Int) : Nat := if a < 0 then 0 else endC 1 (l.drop a.toNat) a.toNat
theorem endC_step (l : List Node) (m j : Nat) (x : Node) (h : l[j]? = some x) : endC m (l.drop j) j = if m + pt x - 1 = 0 then j + 1 else endC (m + pt x - 1) (l.drop (j + 1)) (j + 1) := by
  obtain ⟨hl, rfl⟩ := List.getElem?_eq_some_iff.1 h
  rw [drop_eq l hl, endC]
theorem endC_end (l : List Node) (m j : Nat) (h : l.length ≤ j) : endC m (l.drop j) j = 0 := by
  rw [List.drop_of_length_le h, endC]
set_option maxRecDepth 100000 in
set_option maxHeartbeats 2000000 in
theorem end_any (ad : Option Addr) (cap : Nat) (l : List Node) (a : Int) (ha : inR a) (w : World) (hT : OpsT w) (hV : RowV w ad (l.flatMap NodeC)) (hI : ∀ n ∈ l, n.1 < 256) (hl : l.length * 16 ≤ 140737488355328) :
    Calls Tryd.prog 11 #[.slice ad l.length cap, .int .i64 a] w fun e w' => e = .returned (.int .i64 (endL l a : Int)) ∧ Below w.heap.size w w' := by
  unfold endL
  by_cases c0 : a < 0
  · rw [if_pos c0]
    clear hV hI hl ha
    generalize l.length = n at *
    go_enter Tryd.func11, Tryd.ntmps11
    go_wp2_with fail
    go_ret
    exact ⟨rfl, Below.refl _ _⟩
  rw [if_neg c0]
  obtain ⟨A, rfl⟩ := Int.eq_ofNat_of_zero_le (show 0 ≤ a by omega)
  rw [Int.toNat_natCast]
  have FO : Hid (∀ o : Nat, o < 256 → ∀ W, Below w.heap.size w W → Calls Tryd.prog 38 #[.int .u8 (o : Int)] W fun e w' => e = .returned (opV (opR o)) ∧ Below W.heap.size W w') := fun o ho W hb => operatorOf_any o ho W (ops_later hT hb)
  have HV := hideR hV
  have HI := hideR hI
  have ES := hideR (endC_step l)
  have B0 := hideR (Below.refl w.heap.size w)
  clear hV hI hT 
  generalize hn : l.length = n at *
  have HN := hideR hn
  have HL := hideR hl
  clear hn hl ha
  generalize hr : endC 1 (l.drop A) A = R at *
  have HR := hideR hr
  clear hr
  go_enter Tryd.func11, Tryd.ntmps11
  go_wp2_with fail
  go_loopw [5, 6] (fun op i wr => ∃ (j m : Nat), op = .int .i64 m ∧ i = .int .i64 j ∧ Hid (A ≤ j ∧ 1 ≤ m ∧ m ≤ j - A + 1 ∧ R = endC m (l.drop j) j ∧ Below w.heap.size w wr)) (fun _ i _ => n - (intOf i).toNat)
  case atStart => exact ⟨A, 1, rfl, rfl, Nat.le_refl _, Nat.le_refl _, by omega, HR.out.symm, B0.out⟩
  case round =>
    obtain ⟨j, m, rfl, rfl, E⟩ := hrel
    clear B0
    by_cases cj : j < n
    · have jl : j < l.length := by rw [HN.out]; exact cj
      have B := hideR E.out.2.2.2.2
      obtain ⟨b, off, rfl, x0, x1⟩ := nodes_at (HV.out.later B.out) jl
      have hx : l[j]? = some (l[j]'jl) := List.getElem?_eq_getElem jl
      have SP := hideR (ES.out m j _ hx)
      have hi := HI.out _ (List.getElem_mem jl)
      have hp2 := pt_le (l[j]'jl)
      clear hx x1
      generalize l[j]'jl = x at *
      obtain ⟨o, N⟩ := x
      simp only at x0 hi
      rw [pt_N] at SP hp2
      have OP := hideR (FO.out o hi wr B.out)
      dsimp only [opV] at OP
      generalize opR o = q at *
      obtain ⟨p, tk, kk, sg, bd⟩ := q
      simp only at SP hp2
      have k0 : (0 : Int) ≤ (j : Int) := by omega
      have k1 : (j : Int) < (n : Int) := by omega
      have hm : m ≤ 8796093022208 := by have := E.out.2.2.1; have := HL.out; omega
      have hj : j ≤ 8796093022208 := by have := HL.out; omega
      have m1 := E.out.2.1
      have e1 : IntKind.i64.wrap ((j : Int) + 1) = (j : Int) + 1 := by rw [IntKind.wrap_i64]; omega
      have e2 : IntKind.i64.wrap ((p : Int) - 1) = (p : Int) - 1 := by rw [IntKind.wrap_i64]; omega
      have e3 : IntKind.i64.wrap ((m : Int) + ((p : Int) - 1)) = (m : Int) + ((p : Int) - 1) := by rw [IntKind.wrap_i64]; omega
      by_cases cz : m + p - 1 = 0
      · obtain rfl : m = 1 := by omega
        obtain rfl : p = 0 := by omega
        have RJ : Hid (R = j + 1) := by
          show _ = _
          rw [E.out.2.2.2.1, SP.out]
          rfl
        clear E SP hm hj m1
        go_wp2_with fail
        refine OP.out.mono ?_
        rintro e w1 ⟨rfl, hb⟩
        have B1 := hideR (beyond B.out hb)
        clear hb OP
        go_wp2_with fail
        exact bodyPost_ret (v := .int .i64 ((j : Int) + 1)) (by simp [results, Tryd.results11, go_sem]) rfl ⟨by rw [RJ.out]; rfl, B1.out⟩
      · have RJ : Hid (R = endC (m + p - 1) (l.drop (j + 1)) (j + 1)) := by
          show _ = _
          rw [E.out.2.2.2.1, SP.out]
          exact if_neg cz
        have EA := hideR E.out.1
        have EM := hideR E.out.2.2.1
        have c4 : ¬ (m : Int) + ((p : Int) - 1) = 0 := by omega
        have c5 : ((m : Int) + ((p : Int) - 1) == 0) = false := by simpa using c4
        clear E SP hm hj
        go_wp2_with fail
        refine OP.out.mono ?_
        rintro e w1 ⟨rfl, hb⟩
        have B1 := hideR (beyond B.out hb)
        clear hb OP
        go_wp2_with fail
        go_roundw
        case rel => exact ⟨j + 1, m + p - 1, by congr 1; omega, by go_num, by have := EA.out; omega, by omega, by have := EA.out; have := EM.out; omega, RJ.out, B1.out⟩
        case measure => first | (simp [intOf]; done) | (simp [intOf]; omega)
    · have RJ : Hid (R = 0) := E.out.2.2.2.1.trans (endC_end l m j (by have := HN.out; omega))
      have B := hideR E.out.2.2.2.2
      have k1 : ¬ (j : Int) < (n : Int) := by omega
      clear E
      go_wp2_with fail
      exact bodyPost_ret (v := .int .i64 0) (by simp [results, Tryd.results11, go_sem]) rfl ⟨by rw [RJ.out]; rfl, B.out⟩
set_option maxRecDepth 100000 in
set_option maxHeartbeats 2000000 in
theorem rend_any (ad : Option Addr) (cap : Nat) (l : List Node) (a : Int) (ha : inR a) (w : World) (hV : RowV w ad (l.flatMap NodeC)) (hI : ∀ n ∈ l, n.1 < 256) (hl : l.length * 16 ≤ 140737488355328) :
    Calls Tryd.prog 12 #[.slice ad l.length cap, .int .i64 a] w fun e w' => e = .returned (.int .i64 (endL l a : Int)) ∧ Below w.heap.size w w' := by
  unfold endL
  by_cases c0 : a < 0
  · rw [if_pos c0]
    clear hV hI hl ha
    generalize l.length = n at *
    go_enter Tryd.func12, Tryd.ntmps12
    go_wp2_with fail
    go_ret
    exact ⟨rfl, Below.refl _ _⟩
  rw [if_neg c0]
  obtain ⟨A, rfl⟩ := Int.eq_ofNat_of_zero_le (show 0 ≤ a by omega)
  rw [Int.toNat_natCast]
  by_cases cA : l.length ≤ A
  · rw [endC_end l 1 A cA]
    have c1 : (l.length : Int) ≤ (A : Int) := by omega
    have c2 : ¬ ((A : Int) < 0) := by omega
    clear hV hI hl ha
    generalize l.length = n at *
    go_enter Tryd.func12, Tryd.ntmps12
    go_wp2_with fail
    go_ret
    exact ⟨rfl, Below.refl _ _⟩
  have c1 : ¬ (l.length : Int) ≤ (A : Int) := by omega
  have FO : Hid (∀ o : Nat, o < 256 → ∀ W, Below w.heap.size w W → Calls Tryd.prog 39 #[.int .u8 (o : Int)] W fun e w' => e = .returned (.int .i64 ((opR o).1 : Int)) ∧ Below W.heap.size W w') := fun o ho W hb => parts_any o W
  have HV := hideR hV
  have HI := hideR hI
  have ES := hideR (endC_step l)
  have B0 := hideR (Below.refl w.heap.size w)
  clear hV hI 
  generalize hn : l.length = n at *
  have HN := hideR hn
  have HL := hideR hl
  clear hn hl ha
  generalize hr : endC 1 (l.drop A) A = R at *
  have HR := hideR hr
  clear hr
  go_enter Tryd.func12, Tryd.ntmps12
  go_wp2_with fail
  go_loopw [5, 6] (fun op i wr => ∃ (j m : Nat), op = .int .i64 m ∧ i = .int .i64 j ∧ Hid (A ≤ j ∧ 1 ≤ m ∧ m ≤ j - A + 1 ∧ R = endC m (l.drop j) j ∧ Below w.heap.size w wr)) (fun _ i _ => n - (intOf i).toNat)
  case atStart => exact ⟨A, 1, rfl, rfl, Nat.le_refl _, Nat.le_refl _, by omega, HR.out.symm, B0.out⟩
  case round =>
    obtain ⟨j, m, rfl, rfl, E⟩ := hrel
    clear B0
    by_cases cj : j < n
    · have jl : j < l.length := by rw [HN.out]; exact cj
      have B := hideR E.out.2.2.2.2
      obtain ⟨b, off, rfl, x0, x1⟩ := nodes_at (HV.out.later B.out) jl
      have hx : l[j]? = some (l[j]'jl) := List.getElem?_eq_getElem jl
      have SP := hideR (ES.out m j _ hx)
      have hi := HI.out _ (List.getElem_mem jl)
      have hp2 := pt_le (l[j]'jl)
      clear hx x1
      generalize l[j]'jl = x at *
      obtain ⟨o, N⟩ := x
      simp only at x0 hi
      rw [pt_N] at SP hp2
      have OP := hideR (FO.out o hi wr B.out)
      generalize (opR o).1 = p at *
      have k0 : (0 : Int) ≤ (j : Int) := by omega
      have k1 : (j : Int) < (n : Int) := by omega
      have hm : m ≤ 8796093022208 := by have := E.out.2.2.1; have := HL.out; omega
      have hj : j ≤ 8796093022208 := by have := HL.out; omega
      have m1 := E.out.2.1
      have e1 : IntKind.i64.wrap ((j : Int) + 1) = (j : Int) + 1 := by rw [IntKind.wrap_i64]; omega
      have e2 : IntKind.i64.wrap ((p : Int) - 1) = (p : Int) - 1 := by rw [IntKind.wrap_i64]; omega
      have e3 : IntKind.i64.wrap ((m : Int) + ((p : Int) - 1)) = (m : Int) + ((p : Int) - 1) := by rw [IntKind.wrap_i64]; omega
      by_cases cz : m + p - 1 = 0
      · obtain rfl : m = 1 := by omega
        obtain rfl : p = 0 := by omega
        have RJ : Hid (R = j + 1) := by
          show _ = _
          rw [E.out.2.2.2.1, SP.out]
          rfl
        clear E SP hm hj m1
        go_wp2_with fail
        refine OP.out.mono ?_
        rintro e w1 ⟨rfl, hb⟩
        have B1 := hideR (beyond B.out hb)
        clear hb OP
        go_wp2_with fail
        exact bodyPost_ret (v := .int .i64 ((j : Int) + 1)) (by simp [results, Tryd.results12, go_sem]) rfl ⟨by rw [RJ.out]; rfl, B1.out⟩
      · have RJ : Hid (R = endC (m + p - 1) (l.drop (j + 1)) (j + 1)) := by
          show _ = _
          rw [E.out.2.2.2.1, SP.out]
          exact if_neg cz
        have EA := hideR E.out.1
        have EM := hideR E.out.2.2.1
        have c4 : ¬ (m : Int) + ((p : Int) - 1) = 0 := by omega
        have c5 : ((m : Int) + ((p : Int) - 1) == 0) = false := by simpa using c4
        clear E SP hm hj
        go_wp2_with fail
        refine OP.out.mono ?_
        rintro e w1 ⟨rfl, hb⟩
        have B1 := hideR (beyond B.out hb)
        clear hb OP
        go_wp2_with fail
        go_roundw
        case rel => exact ⟨j + 1, m + p - 1, by congr 1; omega, by go_num, by have := EA.out; omega, by omega, by have := EA.out; have := EM.out; omega, RJ.out, B1.out⟩
        case measure => first | (simp [intOf]; done) | (simp [intOf]; omega)
    · have RJ : Hid (R = 0) := E.out.2.2.2.1.trans (endC_end l m j (by have := HN.out; omega))
      have B := hideR E.out.2.2.2.2
      have k1 : ¬ (j : Int) < (n : Int) := by omega
      clear E
      go_wp2_with fail
      exact bodyPost_ret (v := .int .i64 0) (by simp [results, Tryd.results12, go_sem]) rfl ⟨by rw [RJ.out]; rfl, B.out⟩
end Go.Proofs.YtmnhbokiibaopaaDoor
