/-
  The walk of the statement OpsSets.
-/
import Derived.Test.YtfhfdpapppgfpaaGreatDoorOtDz
import Derived.Test.YtfhfdpapppgfpaaGreatDoorWtz
import Derived.Test.YtfhfdpapppgfpaaGreatDoorTcz
namespace Go.Proofs.YtfhfdpapppgfpaaGreatDoor
open Go.RowKit
set_option linter.unusedVariables false
set_option maxRecDepth 100000
theorem both4s_any (n : Int) (v : Value) (l : List Int) (w : World) (hS : SliceAt w v l) (hi : ∀ j, j < l.length → -2147483648 ≤ l.getD j 0 ∧ l.getD j 0 ≤ 2147483647) (hby : l.length ≤ 9223372036854775807) :
    ∃ o, ZCo o ∧ ∀ w', Below w.heap.size w w' → Calls Tryz.prog 5 #[.int .i64 n, v] w' fun e w'' => (∃ p q, e = .returned (.tuple #[.pointer p, .pointer q]) ∧ Hid (PZ w'' p o) ∧ Hid (RZ w'' q o)) ∧ Hid (Below w'.heap.size w' w'') := by
  obtain ⟨k, o, h1, h2, h3, h4⟩ := two_of n v l w hS hi hby
  refine ⟨o, h3, fun w' hb' => ?_⟩
  have H1 := hideD (h1 w' hb')
  have H2 : Hid (∀ w'', Below w'.heap.size w' w'' → _) := fun w'' hb'' => h2 w'' (beyondD hb' hb'')
  clear h1 h2 hS hi hb'
  go_enter Tryz.func5, Tryz.ntmps5
  go_wp2_with fail
  refine H1.out.mono ?_
  rintro e w1 ⟨⟨p, rfl, hp⟩, hb⟩
  have H3 := hideD (H2.out _ hb.out)
  clear H1 H2
  go_wp2_with fail
  refine H3.out.mono ?_
  rintro e w2 ⟨⟨q, rfl, hq⟩, hb2⟩
  have P2 := hideD (hp.out.past hb2.out)
  have B2 := hideD (beyondD hb.out hb2.out)
  clear H3 hp hb hb2
  go_wp2_with fail
  exact bodyPost_ret (v := .tuple #[.pointer p, .pointer q]) (by simp [results, Tryz.results5, go_sem]) rfl ⟨⟨p, q, rfl, P2, hq⟩, B2⟩
theorem ints_form {w : World} {v : Value} {l : List Int} (h : IntsAt w v l) (hf : v = .slice none 0 0 ∨ ∃ a c, v = .slice (some a) l.length c) : ∃ ad cap, v = .slice ad l.length cap := by
  rcases hf with rfl | ⟨a, c, rfl⟩
  · rcases h with ⟨a, c, e, e'⟩ | ⟨cb, off, cap, e, -⟩
    · subst e'; exact ⟨none, 0, rfl⟩
    · cases e
  · exact ⟨_, _, rfl⟩
set_option maxHeartbeats 8000000 in
theorem opsSets.walk (n : Int) (hn : (Lit.int .i64 n).wf = true) (v : Value) (l : List Int) (x k y : Int) (vs : Value) (ls : List Int) (w : World) (ht : Pow w) (hS : SliceAt w v l) (wf : ∀ z ∈ l, (Lit.int .i32 z).wf = true) (hby : l.length * 4 ≤ 140737488355328) (hnil : ∀ {c}, v = .slice none 0 c → c = 0) (wx : (Lit.int .i64 x).wf = true) (wk : (Lit.int .i64 k).wf = true) (wy : (Lit.int .i64 y).wf = true) (hIs : IntsAt w vs ls) (wfs : ∀ z ∈ ls, (Lit.int .i64 z).wf = true) (bys : ls.length * 8 ≤ 140737488355328) (hfs : vs = .slice none 0 0 ∨ ∃ a c, vs = .slice (some a) ls.length c) :
    Calls Tryz.prog 3 #[.int .i64 n, v, .agg #[.int .i64 x, .int .i64 k, .int .i64 y, vs]] w fun e w' => e = .returned (.bool true) ∧ Below w.heap.size w w' := by
  obtain ⟨ad, cap, rfl⟩ := ints_form hIs hfs
  obtain ⟨o, ho, hbo⟩ := both4s_any n v l w hS (wf_cells wf) (by omega)
  have B0 := hideD (below_one w (.cells #[.int .i64 x, .int .i64 k, .int .i64 y, .slice ad ls.length cap] 25))
  have HL := hideD (olive_any (w.alloc (.cells #[.int .i64 x, .int .i64 k, .int .i64 y, .slice ad ls.length cap] 25)) (pow_later ht B0.out))
  have HB := hideD hbo
  have X0 : Hid ((w.alloc (.cells #[.int .i64 x, .int .i64 k, .int .i64 y, .slice ad ls.length cap] 25)).cell? ⟨w.heap.size, 0, none⟩ = some (.int .i64 x)) := by show _ = _; simp [go_sem]
  have K0 : Hid ((w.alloc (.cells #[.int .i64 x, .int .i64 k, .int .i64 y, .slice ad ls.length cap] 25)).cell? ⟨w.heap.size, 1, none⟩ = some (.int .i64 k)) := by show _ = _; simp [go_sem]
  have Y0 : Hid ((w.alloc (.cells #[.int .i64 x, .int .i64 k, .int .i64 y, .slice ad ls.length cap] 25)).cell? ⟨w.heap.size, 2, none⟩ = some (.int .i64 y)) := by show _ = _; simp [go_sem]
  have V0 : Hid ((w.alloc (.cells #[.int .i64 x, .int .i64 k, .int .i64 y, .slice ad ls.length cap] 25)).cell? ⟨w.heap.size, 3, none⟩ = some (.slice ad ls.length cap)) := by show _ = _; simp [go_sem]
  have I0 := hideD (hIs.past B0.out)
  have HH : Hid (∀ w, IntsAt w (.slice ad ls.length cap) ls → _) := fun w h => hand_ints ls.length cap ad ls w rfl h bys
  have HK : Hid (∀ g w, (∀ j, j < ls.length + 9 → w.cell? ⟨g, j, none⟩ = some (.int .i64 (roomI ls ls.length j))) → IntsAt w (.slice ad ls.length cap) ls → _) := fun g w h1 h2 => kept_ints g ls.length cap ad ls w rfl h1 h2 bys
  have BY := hideD bys
  clear hbo hS wf hnil hby ht hn hIs wx wk wy wfs bys hfs
  go_enter Tryz.func3, Tryz.ntmps3
  go_wp2_with fail
  generalize w.alloc (.cells #[.int .i64 x, .int .i64 k, .int .i64 y, .slice ad ls.length cap] 25) = w0 at *
  refine HL.out.mono ?_
  rintro e w1 ⟨rfl, hb1⟩
  have B1 := hideD (beyondD B0.out hb1)
  have HB1 := hideD (HB.out _ B1.out)
  have X1 := hideD (kc _ _ hb1 X0.out)
  have K1 := hideD (kc _ _ hb1 K0.out)
  have Y1 := hideD (kc _ _ hb1 Y0.out)
  have V1 := hideD (kc _ _ hb1 V0.out)
  have I1 := hideD (I0.out.past hb1)
  clear HL hb1 HB X0 K0 Y0 V0 I0 B0
  go_wp2_with fail
  refine HB1.out.mono ?_
  rintro e w2 ⟨⟨p, q, rfl, hp, hq⟩, hb2⟩
  have B2 := hideD (beyondD B1.out hb2.out)
  have X2 := hideD (kc _ _ hb2.out X1.out)
  have K2 := hideD (kc _ _ hb2.out K1.out)
  have Y2 := hideD (kc _ _ hb2.out Y1.out)
  have cv := kc _ _ hb2.out V1.out
  have V2 := hideD cv
  have I2 := hideD (I1.out.past hb2.out)
  have HH2 := hideD (HH.out w2 I2.out)
  clear HB1 hb2 HH X1 K1 Y1 V1 I1 B1
  go_wp2_with fail
  refine HH2.out.mono ?_
  rintro e w3 ⟨rfl, hc, -, hb3⟩
  have P3 := hideD (hp.out.past hb3)
  have Q3 := hideD (hq.out.past hb3)
  have B3 := hideD (beyondD B2.out hb3)
  have X3 := hideD (kc _ _ hb3 X2.out)
  have K3 := hideD (kc _ _ hb3 K2.out)
  have Y3 := hideD (kc _ _ hb3 Y2.out)
  have V3 := hideD (kc _ _ hb3 V2.out)
  have I3 := hideD (I2.out.past hb3)
  have C3 := hc
  generalize w2.heap.size = g at *
  clear HH2 hp hq hb3 hc cv X2 K2 Y2 V2 I2 B2
  obtain ⟨ek, o3, u1, u2, -⟩ := two_reset x k P3.out Q3.out ho
  have U1 := hideD (u1 _ (Below.refl _ _))
  have U2 := hideD u2
  clear u1 u2
  have cX := X3.out
  have cK := K3.out
  go_wp2_with fail
  refine U1.out.mono ?_
  rintro e w4 ⟨⟨pa, rfl, hpa⟩, hb⟩
  have U3 := hideD (U2.out _ hb.out)
  have P4 := hideD (P3.out.past hb.out)
  have Q4 := hideD (Q3.out.past hb.out)
  have X4 := hideD (kc _ _ hb.out X3.out)
  have K4 := hideD (kc _ _ hb.out K3.out)
  have Y4 := hideD (kc _ _ hb.out Y3.out)
  have V4 := hideD (kc _ _ hb.out V3.out)
  have I4 := hideD (I3.out.past hb.out)
  have C4 : Hid (∀ j, j < ls.length + 9 → w4.cell? ⟨g, j, none⟩ = some (.int .i64 (roomI ls ls.length j))) := fun j hj => kc _ _ hb.out (C3.out j hj)
  have B4 := hideD (beyondD B3.out hb.out)
  clear P3 Q3 X3 K3 Y3 V3 I3 C3 B3 
  have PA := hideD hpa.out
  clear U1 U2 hb hpa cX cK
  have cX := X4.out
  have cK := K4.out
  go_wp2_with fail
  refine U3.out.mono ?_
  rintro e w5 ⟨⟨qa, rfl, hqa⟩, hb⟩
  have HS := hideD (same_any (PA.out.past hb.out) hqa.out)
  have P5 := hideD (P4.out.past hb.out)
  have Q5 := hideD (Q4.out.past hb.out)
  have X5 := hideD (kc _ _ hb.out X4.out)
  have K5 := hideD (kc _ _ hb.out K4.out)
  have Y5 := hideD (kc _ _ hb.out Y4.out)
  have V5 := hideD (kc _ _ hb.out V4.out)
  have I5 := hideD (I4.out.past hb.out)
  have C5 : Hid (∀ j, j < ls.length + 9 → w5.cell? ⟨g, j, none⟩ = some (.int .i64 (roomI ls ls.length j))) := fun j hj => kc _ _ hb.out (C4.out j hj)
  have B5 := hideD (beyondD B4.out hb.out)
  clear P4 Q4 X4 K4 Y4 V4 I4 C4 B4 
  clear U3 hb PA hqa cX cK
  go_wp2_with fail
  refine HS.out.mono ?_
  rintro e w6 ⟨rfl, hb⟩
  have P6 := hideD (P5.out.past hb)
  have Q6 := hideD (Q5.out.past hb)
  have X6 := hideD (kc _ _ hb X5.out)
  have K6 := hideD (kc _ _ hb K5.out)
  have Y6 := hideD (kc _ _ hb Y5.out)
  have V6 := hideD (kc _ _ hb V5.out)
  have I6 := hideD (I5.out.past hb)
  have C6 : Hid (∀ j, j < ls.length + 9 → w6.cell? ⟨g, j, none⟩ = some (.int .i64 (roomI ls ls.length j))) := fun j hj => kc _ _ hb (C5.out j hj)
  have B6 := hideD (beyondD B5.out hb)
  clear P5 Q5 X5 K5 Y5 V5 I5 C5 B5 
  clear HS hb
  obtain ⟨ek, o6, u1, u2, -⟩ := two_unset x k P6.out Q6.out ho
  have U1 := hideD (u1 _ (Below.refl _ _))
  have U2 := hideD u2
  clear u1 u2
  have cX := X6.out
  have cK := K6.out
  go_wp2_with fail
  refine U1.out.mono ?_
  rintro e w7 ⟨⟨pa, rfl, hpa⟩, hb⟩
  have U3 := hideD (U2.out _ hb.out)
  have P7 := hideD (P6.out.past hb.out)
  have Q7 := hideD (Q6.out.past hb.out)
  have X7 := hideD (kc _ _ hb.out X6.out)
  have K7 := hideD (kc _ _ hb.out K6.out)
  have Y7 := hideD (kc _ _ hb.out Y6.out)
  have V7 := hideD (kc _ _ hb.out V6.out)
  have I7 := hideD (I6.out.past hb.out)
  have C7 : Hid (∀ j, j < ls.length + 9 → w7.cell? ⟨g, j, none⟩ = some (.int .i64 (roomI ls ls.length j))) := fun j hj => kc _ _ hb.out (C6.out j hj)
  have B7 := hideD (beyondD B6.out hb.out)
  clear P6 Q6 X6 K6 Y6 V6 I6 C6 B6 
  have PA := hideD hpa.out
  clear U1 U2 hb hpa cX cK
  have cX := X7.out
  have cK := K7.out
  go_wp2_with fail
  refine U3.out.mono ?_
  rintro e w8 ⟨⟨qa, rfl, hqa⟩, hb⟩
  have HS := hideD (same_any (PA.out.past hb.out) hqa.out)
  have P8 := hideD (P7.out.past hb.out)
  have Q8 := hideD (Q7.out.past hb.out)
  have X8 := hideD (kc _ _ hb.out X7.out)
  have K8 := hideD (kc _ _ hb.out K7.out)
  have Y8 := hideD (kc _ _ hb.out Y7.out)
  have V8 := hideD (kc _ _ hb.out V7.out)
  have I8 := hideD (I7.out.past hb.out)
  have C8 : Hid (∀ j, j < ls.length + 9 → w8.cell? ⟨g, j, none⟩ = some (.int .i64 (roomI ls ls.length j))) := fun j hj => kc _ _ hb.out (C7.out j hj)
  have B8 := hideD (beyondD B7.out hb.out)
  clear P7 Q7 X7 K7 Y7 V7 I7 C7 B7 
  clear U3 hb PA hqa cX cK
  go_wp2_with fail
  refine HS.out.mono ?_
  rintro e w9 ⟨rfl, hb⟩
  have P9 := hideD (P8.out.past hb)
  have Q9 := hideD (Q8.out.past hb)
  have X9 := hideD (kc _ _ hb X8.out)
  have K9 := hideD (kc _ _ hb K8.out)
  have Y9 := hideD (kc _ _ hb Y8.out)
  have V9 := hideD (kc _ _ hb V8.out)
  have I9 := hideD (I8.out.past hb)
  have C9 : Hid (∀ j, j < ls.length + 9 → w9.cell? ⟨g, j, none⟩ = some (.int .i64 (roomI ls ls.length j))) := fun j hj => kc _ _ hb (C8.out j hj)
  have B9 := hideD (beyondD B8.out hb)
  clear P8 Q8 X8 K8 Y8 V8 I8 C8 B8 
  clear HS hb
  obtain ⟨ek, o9, u1, u2, -⟩ := two_free (cap := ls.length + 9) (cap' := cap) P9.out Q9.out ho (room_ints rfl C9.out) I9.out (by have := BY.out; omega)
  have U1 := hideD (u1 _ (Below.refl _ _))
  have U2 := hideD u2
  clear u1 u2
  go_wp2_with fail
  refine U1.out.mono ?_
  rintro e w10 ⟨⟨pa, rfl, hpa⟩, hb⟩
  have U3 := hideD (U2.out _ hb.out)
  have P10 := hideD (P9.out.past hb.out)
  have Q10 := hideD (Q9.out.past hb.out)
  have X10 := hideD (kc _ _ hb.out X9.out)
  have K10 := hideD (kc _ _ hb.out K9.out)
  have Y10 := hideD (kc _ _ hb.out Y9.out)
  have V10 := hideD (kc _ _ hb.out V9.out)
  have I10 := hideD (I9.out.past hb.out)
  have C10 : Hid (∀ j, j < ls.length + 9 → w10.cell? ⟨g, j, none⟩ = some (.int .i64 (roomI ls ls.length j))) := fun j hj => kc _ _ hb.out (C9.out j hj)
  have B10 := hideD (beyondD B9.out hb.out)
  clear P9 Q9 X9 K9 Y9 V9 I9 C9 B9 
  have PA := hideD hpa.out
  clear U1 U2 hb hpa 
  have cV := V10.out
  go_wp2_with fail
  refine U3.out.mono ?_
  rintro e w11 ⟨⟨qa, rfl, hqa⟩, hb⟩
  have HS := hideD (same_any (PA.out.past hb.out) hqa.out)
  have P11 := hideD (P10.out.past hb.out)
  have Q11 := hideD (Q10.out.past hb.out)
  have X11 := hideD (kc _ _ hb.out X10.out)
  have K11 := hideD (kc _ _ hb.out K10.out)
  have Y11 := hideD (kc _ _ hb.out Y10.out)
  have V11 := hideD (kc _ _ hb.out V10.out)
  have I11 := hideD (I10.out.past hb.out)
  have C11 : Hid (∀ j, j < ls.length + 9 → w11.cell? ⟨g, j, none⟩ = some (.int .i64 (roomI ls ls.length j))) := fun j hj => kc _ _ hb.out (C10.out j hj)
  have B11 := hideD (beyondD B10.out hb.out)
  clear P10 Q10 X10 K10 Y10 V10 I10 C10 B10 
  clear U3 hb PA hqa cV
  go_wp2_with fail
  refine HS.out.mono ?_
  rintro e w12 ⟨rfl, hb⟩
  have P12 := hideD (P11.out.past hb)
  have Q12 := hideD (Q11.out.past hb)
  have X12 := hideD (kc _ _ hb X11.out)
  have K12 := hideD (kc _ _ hb K11.out)
  have Y12 := hideD (kc _ _ hb Y11.out)
  have V12 := hideD (kc _ _ hb V11.out)
  have I12 := hideD (I11.out.past hb)
  have C12 : Hid (∀ j, j < ls.length + 9 → w12.cell? ⟨g, j, none⟩ = some (.int .i64 (roomI ls ls.length j))) := fun j hj => kc _ _ hb (C11.out j hj)
  have B12 := hideD (beyondD B11.out hb)
  clear P11 Q11 X11 K11 Y11 V11 I11 C11 B11 
  clear HS hb
  obtain ⟨ek, o12, u1, u2, -⟩ := two_copy x y P12.out Q12.out ho
  have U1 := hideD (u1 _ (Below.refl _ _))
  have U2 := hideD u2
  clear u1 u2
  have cX := X12.out
  have cY := Y12.out
  go_wp2_with fail
  refine U1.out.mono ?_
  rintro e w13 ⟨⟨pa, rfl, hpa⟩, hb⟩
  have U3 := hideD (U2.out _ hb.out)
  have P13 := hideD (P12.out.past hb.out)
  have Q13 := hideD (Q12.out.past hb.out)
  have X13 := hideD (kc _ _ hb.out X12.out)
  have K13 := hideD (kc _ _ hb.out K12.out)
  have Y13 := hideD (kc _ _ hb.out Y12.out)
  have V13 := hideD (kc _ _ hb.out V12.out)
  have I13 := hideD (I12.out.past hb.out)
  have C13 : Hid (∀ j, j < ls.length + 9 → w13.cell? ⟨g, j, none⟩ = some (.int .i64 (roomI ls ls.length j))) := fun j hj => kc _ _ hb.out (C12.out j hj)
  have B13 := hideD (beyondD B12.out hb.out)
  clear P12 Q12 X12 K12 Y12 V12 I12 C12 B12 
  have PA := hideD hpa.out
  clear U1 U2 hb hpa cX cY
  have cX := X13.out
  have cY := Y13.out
  go_wp2_with fail
  refine U3.out.mono ?_
  rintro e w14 ⟨⟨qa, rfl, hqa⟩, hb⟩
  have HS := hideD (same_any (PA.out.past hb.out) hqa.out)
  have P14 := hideD (P13.out.past hb.out)
  have Q14 := hideD (Q13.out.past hb.out)
  have X14 := hideD (kc _ _ hb.out X13.out)
  have K14 := hideD (kc _ _ hb.out K13.out)
  have Y14 := hideD (kc _ _ hb.out Y13.out)
  have V14 := hideD (kc _ _ hb.out V13.out)
  have I14 := hideD (I13.out.past hb.out)
  have C14 : Hid (∀ j, j < ls.length + 9 → w14.cell? ⟨g, j, none⟩ = some (.int .i64 (roomI ls ls.length j))) := fun j hj => kc _ _ hb.out (C13.out j hj)
  have B14 := hideD (beyondD B13.out hb.out)
  clear P13 Q13 X13 K13 Y13 V13 I13 C13 B13 
  clear U3 hb PA hqa cX cY
  go_wp2_with fail
  refine HS.out.mono ?_
  rintro e w15 ⟨rfl, hb⟩
  have P15 := hideD (P14.out.past hb)
  have Q15 := hideD (Q14.out.past hb)
  have X15 := hideD (kc _ _ hb X14.out)
  have K15 := hideD (kc _ _ hb K14.out)
  have Y15 := hideD (kc _ _ hb Y14.out)
  have V15 := hideD (kc _ _ hb V14.out)
  have I15 := hideD (I14.out.past hb)
  have C15 : Hid (∀ j, j < ls.length + 9 → w15.cell? ⟨g, j, none⟩ = some (.int .i64 (roomI ls ls.length j))) := fun j hj => kc _ _ hb (C14.out j hj)
  have B15 := hideD (beyondD B14.out hb)
  clear P14 Q14 X14 K14 Y14 V14 I14 C14 B14 
  clear HS hb
  obtain ⟨ek, o15, u1, u2, -⟩ := two_keep (cap := ls.length + 9) (cap' := cap) P15.out Q15.out ho (room_ints rfl C15.out) I15.out (by have := BY.out; omega) (fun h => by cases h)
  have U1 := hideD (u1 _ (Below.refl _ _))
  have U2 := hideD u2
  clear u1 u2
  go_wp2_with fail
  refine U1.out.mono ?_
  rintro e w16 ⟨⟨pa, rfl, hpa⟩, hb⟩
  have U3 := hideD (U2.out _ hb.out)
  have P16 := hideD (P15.out.past hb.out)
  have Q16 := hideD (Q15.out.past hb.out)
  have X16 := hideD (kc _ _ hb.out X15.out)
  have K16 := hideD (kc _ _ hb.out K15.out)
  have Y16 := hideD (kc _ _ hb.out Y15.out)
  have V16 := hideD (kc _ _ hb.out V15.out)
  have I16 := hideD (I15.out.past hb.out)
  have C16 : Hid (∀ j, j < ls.length + 9 → w16.cell? ⟨g, j, none⟩ = some (.int .i64 (roomI ls ls.length j))) := fun j hj => kc _ _ hb.out (C15.out j hj)
  have B16 := hideD (beyondD B15.out hb.out)
  clear P15 Q15 X15 K15 Y15 V15 I15 C15 B15 
  have PA := hideD hpa.out
  clear U1 U2 hb hpa 
  have cV := V16.out
  go_wp2_with fail
  refine U3.out.mono ?_
  rintro e w17 ⟨⟨qa, rfl, hqa⟩, hb⟩
  have HS := hideD (same_any (PA.out.past hb.out) hqa.out)
  have P17 := hideD (P16.out.past hb.out)
  have Q17 := hideD (Q16.out.past hb.out)
  have X17 := hideD (kc _ _ hb.out X16.out)
  have K17 := hideD (kc _ _ hb.out K16.out)
  have Y17 := hideD (kc _ _ hb.out Y16.out)
  have V17 := hideD (kc _ _ hb.out V16.out)
  have I17 := hideD (I16.out.past hb.out)
  have C17 : Hid (∀ j, j < ls.length + 9 → w17.cell? ⟨g, j, none⟩ = some (.int .i64 (roomI ls ls.length j))) := fun j hj => kc _ _ hb.out (C16.out j hj)
  have B17 := hideD (beyondD B16.out hb.out)
  clear P16 Q16 X16 K16 Y16 V16 I16 C16 B16 
  clear U3 hb PA hqa cV
  go_wp2_with fail
  refine HS.out.mono ?_
  rintro e w18 ⟨rfl, hb⟩
  have P18 := hideD (P17.out.past hb)
  have Q18 := hideD (Q17.out.past hb)
  have X18 := hideD (kc _ _ hb X17.out)
  have K18 := hideD (kc _ _ hb K17.out)
  have Y18 := hideD (kc _ _ hb Y17.out)
  have V18 := hideD (kc _ _ hb V17.out)
  have I18 := hideD (I17.out.past hb)
  have C18 : Hid (∀ j, j < ls.length + 9 → w18.cell? ⟨g, j, none⟩ = some (.int .i64 (roomI ls ls.length j))) := fun j hj => kc _ _ hb (C17.out j hj)
  have B18 := hideD (beyondD B17.out hb)
  clear P17 Q17 X17 K17 Y17 V17 I17 C17 B17 
  clear HS hb
  have HS := hideD (same_any P18.out Q18.out)
  go_wp2_with fail
  refine HS.out.mono ?_
  rintro e w19 ⟨rfl, hb⟩
  have P19 := hideD (P18.out.past hb)
  have Q19 := hideD (Q18.out.past hb)
  have X19 := hideD (kc _ _ hb X18.out)
  have K19 := hideD (kc _ _ hb K18.out)
  have Y19 := hideD (kc _ _ hb Y18.out)
  have V19 := hideD (kc _ _ hb V18.out)
  have I19 := hideD (I18.out.past hb)
  have C19 : Hid (∀ j, j < ls.length + 9 → w19.cell? ⟨g, j, none⟩ = some (.int .i64 (roomI ls ls.length j))) := fun j hj => kc _ _ hb (C18.out j hj)
  have B19 := hideD (beyondD B18.out hb)
  clear P18 Q18 X18 K18 Y18 V18 I18 C18 B18 
  clear HS hb
  have HK1 := hideD (HK.out g w19 C19.out I19.out)
  have cV := V19.out
  go_wp2_with fail
  refine HK1.out.mono ?_
  rintro e w20 ⟨rfl, hb⟩
  have BZ := hideD (beyondD B19.out hb)
  clear HK1 hb cV
  go_wp2_with fail
  go_ret
  exact ⟨by simp, BZ.out⟩
end Go.Proofs.YtfhfdpapppgfpaaGreatDoor
