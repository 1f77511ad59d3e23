/-
  The walk of ExprAll.
-/
import Derived.Test.YtmnhbokiibaopabDoorQc
namespace Go.Proofs.YtmnhbokiibaopabDoor
open Go.RowKit
set_option linter.unusedVariables false
namespace exprAll
set_option maxRecDepth 100000 in
set_option maxHeartbeats 4000000 in
theorem inner (ad : Option Addr) (cap : Nat) (ls : List Sl) (vd : Option Addr) (vc : Nat) (vs : List Int) (w : World) (hT : OpsT w) (hP : Pow w) (hR : RowV w ad (ls.flatMap SlC)) (hN : ∀ e ∈ ls, RowV w e.1.1 (e.2.flatMap NodeC)) (hI : ∀ e ∈ ls, ∀ n ∈ e.2, n.1 < 256) (hS : (ls.map (·.2)).flatten.length + ls.length ≤ 1000000000) (hV : RowV w vd (vs.flatMap IntC)) (hvs : ∀ v ∈ vs, inR v) :
    Calls Tryd.prog 3 #[.slice ad ls.length cap, .slice vd vs.length vc] w fun e w' => e = .returned (.bool true) ∧ Below w.heap.size w w' := by
  have HH : Hid (∀ W ad cap (l : List Node) n, l.length = n → (∀ x ∈ l, x.1 < 256) → Below w.heap.size w W → RowV W ad (l.flatMap NodeC) → Calls Tryd.prog 5 #[.slice ad n cap, .slice vd vs.length vc] W fun e w' => e = .returned (.tuple #[.bool (holdsT vs l).1, .int .i64 (holdsT vs l).2]) ∧ Below W.heap.size W w') := by
    intro W ad cap l n hl hi hb hr
    subst hl
    exact holds_any ad cap l vd vc vs W (ops_later hT hb) hr hi (hV.later hb) hvs
  have LV : Hid (∀ W, Below w.heap.size w W → Calls Tryd.prog 6 #[] W fun e w' => e = .returned (.bool true) ∧ Below W.heap.size W w') := fun W hb => live_any W (ops_later hT hb) (pow_later hP hb)
  have AA : Hid (∀ W, Below w.heap.size w W → Calls Tryd.prog 7 #[.slice ad ls.length cap] W fun e w' => ∃ v, e = .returned v ∧ w'.ownsRow W.heap.size 36 2 v (allL (ls.map (·.2))).length ((allL (ls.map (·.2))).flatMap NodeC) ∧ Below W.heap.size W w') := fun W hb => all_any ad cap ls W (hR.later hb) (fun e he => (hN e he).later hb) hS
  have HR := hideR hR
  have HN := hideR hN
  have HI := hideR hI
  have nl : (ls.length : Int) ≤ 1000000000 := by omega
  clear hR hN hI hS hT hP hV hvs
  generalize vs.length = nv at *
  generalize hn : ls.length = n at *
  have HL := hideR hn
  clear hn
  go_enter Tryd.func3, Tryd.ntmps3
  go_wp2_with fail
  go_loopw [5, 6] (fun al i wr => ∃ (j : Nat), j ≤ n ∧ al = .bool (((ls.take j).map (·.2)).all (fun e => (holdsT vs e).1)) ∧ i = .int .i64 j ∧ Hid (Below w.heap.size w wr ∧ ∀ e ∈ (ls.take j).map (·.2), (holdsT vs e).2 = 0)) (fun _ i _ => n - (intOf i).toNat)
  case atStart => exact ⟨0, by omega, rfl, rfl, Below.refl _ _, fun e he => by cases he⟩
  case round =>
    obtain ⟨j, hj, rfl, rfl, E⟩ := hrel
    by_cases cj : j < n
    · have i1 : (j : Int) < (n : Int) := by omega
      have jl : j < ls.length := by rw [HL.out]; exact cj
      have e1 : IntKind.i64.wrap ((j : Int) + 1) = (j : Int) + 1 := by rw [IntKind.wrap_i64]; omega
      obtain ⟨b, off, rfl, cc⟩ := rowV_at (s := 1) (fun _ => rfl) (HR.out.later E.out.1) (by decide) jl
      have x0 := cc 0 (by decide)
      simp only [SlC, List.getElem?_cons_zero, Nat.mul_one, Nat.add_zero] at x0
      clear cc
      have TK := hideR (take_more ls j jl)
      have HE := hideR (HN.out _ (List.getElem_mem jl))
      have HEI := hideR (HI.out _ (List.getElem_mem jl))
      generalize ls[j]'jl = el at *
      obtain ⟨⟨ea, ec⟩, el⟩ := el
      simp only at x0 HE HEI TK
      generalize (ls.take j).map (·.2) = X at *
      have HO := hideR (HH.out wr ea ec el el.length rfl HEI.out E.out.1 (HE.out.later E.out.1))
      generalize hh : holdsT vs el = hv at *
      have HV := hideR hh
      clear hh
      obtain ⟨ye, er⟩ := hv
      simp only at HO
      generalize hy : X.all (fun e => (holdsT vs e).1) = ya at *
      have HY := hideR hy
      clear hy
      go_wp2_with fail
      refine HO.out.mono ?_
      rintro e w1 ⟨rfl, hb⟩
      have B1 := hideR (beyond E.out.1 hb)
      clear hb HO
      by_cases ce : er = 0
      · subst ce
        have N1 : Hid (((X ++ [el]).all (fun e => (holdsT vs e).1)) = (ya && ye)) := by
          show _ = _
          rw [List.all_append, HY.out]
          simp [HV.out]
        have N2 : Hid (∀ e ∈ X ++ [el], (holdsT vs e).2 = 0) := by
          intro e he
          rcases List.mem_append.1 he with h | h
          · exact E.out.2 e h
          · rw [List.mem_singleton.1 h, HV.out]
        clear E HY HV
        cases ya with
        | true =>
          go_wp2_with fail
          go_roundw
          case rel => exact ⟨j + 1, by omega, by rw [TK.out, N1.out]; rfl, by go_num, by rw [TK.out]; exact ⟨B1.out, N2.out⟩⟩
          case measure => first | (simp [intOf]; done) | (simp [intOf]; omega)
        | false =>
          go_wp2_with fail
          go_roundw
          case rel => exact ⟨j + 1, by omega, by rw [TK.out, N1.out]; rfl, by go_num, by rw [TK.out]; exact ⟨B1.out, N2.out⟩⟩
          case measure => first | (simp [intOf]; done) | (simp [intOf]; omega)
      · have c1 : (er == 0) = false := by simpa using ce
        go_wp2_with fail
        refine (LV.out _ B1.out).mono ?_
        rintro e w2 ⟨rfl, hb⟩
        have B2 := hideR (beyond B1.out hb)
        clear hb LV B1
        go_wp2_with fail
        go_ret
        exact ⟨rfl, B2.out⟩
    · obtain rfl : j = n := by omega
      have tk : ls.take j = ls := List.take_of_length_le (by have := HL.out; omega)
      rw [tk] at E
      rw [tk]
      have II : Hid (∀ x ∈ allL (ls.map (·.2)), x.1 < 256) := by
        intro x hx
        rcases List.mem_append.1 hx with h | h
        · rw [(List.mem_replicate.1 h).2]
          decide
        · obtain ⟨l, hl, hxl⟩ := List.mem_flatten.1 h
          obtain ⟨e, he, rfl⟩ := List.mem_map.1 hl
          exact HI.out e he x hxl
      have LG : Hid (64 < (allL (ls.map (·.2))).length → holdsT vs (allL (ls.map (·.2))) = (false, 121)) := all_long
      have LS : Hid ((allL (ls.map (·.2))).length ≤ 64 → holdsT vs (allL (ls.map (·.2))) = ((ls.map (·.2)).all (fun e => (holdsT vs e).1), 0)) := all_holds _ E.out.2
      have B0 := hideR E.out.1
      clear E
      generalize (ls.map (·.2)).all (fun e => (holdsT vs e).1) = ya at *
      generalize allL (ls.map (·.2)) = J at *
      go_wp2_with fail
      refine (AA.out _ B0.out).mono ?_
      rintro e w1 ⟨v, rfl, hw, hb⟩
      obtain ⟨ja, jc, rfl, hr, _⟩ := own_rowV hw
      have B1 := hideR (beyond B0.out hb)
      have RJ := hideR hr
      clear hw hb hr B0 AA
      have HJ := hideR (HH.out w1 ja jc J J.length rfl II.out B1.out RJ.out)
      clear HH II RJ
      generalize hh : holdsT vs J = hv at *
      clear hh
      generalize J.length = m at *
      go_wp2_with fail
      refine HJ.out.mono ?_
      rintro e w2 ⟨rfl, hb⟩
      have B2 := hideR (beyond B1.out hb)
      clear hb HJ B1
      go_wp2_with fail
      refine (LV.out _ B2.out).mono ?_
      rintro e w3 ⟨rfl, hb⟩
      have B3 := hideR (beyond B2.out hb)
      clear hb LV B2
      by_cases cm : m ≤ 64
      · have hq := LS.out cm
        subst hq
        have d1 : ¬ (64 : Int) < (m : Int) := by omega
        have d2 : (m : Int) ≤ 64 := by omega
        clear LS LG
        cases ya
        · go_wp2_with fail
          go_ret
          exact ⟨rfl, B3.out⟩
        · go_wp2_with fail
          go_ret
          exact ⟨rfl, B3.out⟩
      · have hq := LG.out (by omega)
        subst hq
        have d1 : (64 : Int) < (m : Int) := by omega
        clear LS LG
        go_wp2_with fail
        go_ret
        exact ⟨rfl, B3.out⟩
end exprAll
end Go.Proofs.YtmnhbokiibaopabDoor
