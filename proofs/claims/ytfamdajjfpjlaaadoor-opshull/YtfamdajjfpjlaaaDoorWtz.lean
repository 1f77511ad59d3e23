/-
  The walk of the statement OpsTime.
-/
import Derived.Test.YtfamdajjfpjlaaaDoorZf
namespace Go.Proofs.YtfamdajjfpjlaaaDoor
open Go.RowKit
set_option linter.unusedVariables false
set_option maxRecDepth 100000
theorem wf_cells {l : List Int} (wf : ∀ z ∈ l, (Lit.int .i32 z).wf = true) : ∀ j, j < l.length → -2147483648 ≤ l.getD j 0 ∧ l.getD j 0 ≤ 2147483647 := fun j hj => by
  have e : l.getD j 0 = l[j] := by simp [List.getD, hj]
  rw [e]
  exact bounds_i32 (wf _ (List.getElem_mem hj))
set_option maxHeartbeats 2000000 in
theorem opsTime.walk (n : Int) (hn : (Lit.int .i64 n).wf = true) (v : Value) (l : List Int) (w : World) (ht : Pow w) (hS : SliceAt w v l) (wf : ∀ z ∈ l, (Lit.int .i32 z).wf = true) (hby : l.length * 4 ≤ 140737488355328) (hnil : ∀ {c}, v = .slice none 0 c → c = 0) :
    Calls Tryd.prog 3 #[.int .i64 n, v] w fun e w' => e = .returned (.bool true) ∧ Below w.heap.size w w' := by
  obtain ⟨o, ho, -, hb⟩ := both_any n v l w hS (wf_cells wf) (by omega)
  have HB := hideD hb
  have HP := hideD ht
  clear hb ht hS wf hnil hn hby
  go_enter Tryd.func3, Tryd.ntmps3
  go_wp2_with fail
  refine HB.out.mono ?_
  rintro e w1 ⟨⟨p, q, rfl, hp, hq⟩, hb1⟩
  obtain ⟨k, o1, u1, u2, u3⟩ := two_up hp.out hq.out ho
  obtain ⟨k', o2, d1, d2, d3⟩ := two_down hp.out hq.out ho
  have U1 := hideD (u1 _ (Below.refl _ _))
  have U2 := hideD u2
  have D1 := hideD d1
  have D2 := hideD d2
  clear HB u1 u2 u3 d1 d2 d3
  go_wp2_with fail
  refine U1.out.mono ?_
  rintro e w2 ⟨⟨pa, rfl, hpa⟩, hb2⟩
  have U3 := hideD (U2.out _ hb2.out)
  clear U1 U2
  go_wp2_with fail
  refine U3.out.mono ?_
  rintro e w3 ⟨⟨qa, rfl, hqa⟩, hb3⟩
  have B13 := hideD (beyondD hb2.out hb3.out)
  have PA3 := hideD (hpa.out.past hb3.out)
  have D3 := hideD (D1.out _ B13.out)
  clear U3 D1 hb2 hb3 hpa
  go_wp2_with fail
  refine D3.out.mono ?_
  rintro e w4 ⟨⟨pc, rfl, hpc⟩, hb4⟩
  have B14 := hideD (beyondD B13.out hb4.out)
  have PA4 := hideD (PA3.out.past hb4.out)
  have QA4 := hideD (hqa.out.past hb4.out)
  have D4 := hideD (D2.out _ B14.out)
  clear D3 D2 hb4 PA3 hqa B13
  go_wp2_with fail
  refine D4.out.mono ?_
  rintro e w5 ⟨⟨qc, rfl, hqc⟩, hb5⟩
  have B15 := hideD (beyondD B14.out hb5.out)
  have PA5 := hideD (PA4.out.past hb5.out)
  have QA5 := hideD (QA4.out.past hb5.out)
  have PC5 := hideD (hpc.out.past hb5.out)
  have B05 := hideD (beyondD hb1.out B15.out)
  have HL := hideD (olive_any w5 (pow_later HP.out B05.out))
  have P5 := hideD (hp.out.past B15.out)
  have Q5 := hideD (hq.out.past B15.out)
  clear D4 hb5 PA4 QA4 hpc B14 hp hq hb1 B15
  go_wp2_with fail
  refine HL.out.mono ?_
  rintro e w6 ⟨rfl, hb6⟩
  have B06 := hideD (beyondD B05.out hb6)
  have HS1 := hideD (same_any (PA5.out.past hb6) (QA5.out.past hb6))
  have PC6 := hideD (PC5.out.past hb6)
  have QC6 := hideD (hqc.out.past hb6)
  have P6 := hideD (P5.out.past hb6)
  have Q6 := hideD (Q5.out.past hb6)
  clear HL hb6 PA5 QA5 PC5 hqc P5 Q5 B05
  go_wp2_with fail
  refine HS1.out.mono ?_
  rintro e w7 ⟨rfl, hb7⟩
  have B07 := hideD (beyondD B06.out hb7)
  have HS2 := hideD (same_any (PC6.out.past hb7) (QC6.out.past hb7))
  have P7 := hideD (P6.out.past hb7)
  have Q7 := hideD (Q6.out.past hb7)
  clear HS1 hb7 PC6 QC6 P6 Q6 B06
  go_wp2_with fail
  refine HS2.out.mono ?_
  rintro e w8 ⟨rfl, hb8⟩
  have B08 := hideD (beyondD B07.out hb8)
  have HS3 := hideD (same_any (P7.out.past hb8) (Q7.out.past hb8))
  clear HS2 hb8 P7 Q7 B07
  go_wp2_with fail
  refine HS3.out.mono ?_
  rintro e w9 ⟨rfl, hb9⟩
  go_wp2_with fail
  go_ret
  exact ⟨by simp, beyondD B08.out hb9⟩
end Go.Proofs.YtfamdajjfpjlaaaDoor
