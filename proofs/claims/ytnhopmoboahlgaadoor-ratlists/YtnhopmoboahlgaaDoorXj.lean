/-
  The contracts of the document's Add, Sub, Mul and Div of fractions, by what they call.
-/
import Derived.Test.YtnhopmoboahlgaaDoorXh
namespace Go.Proofs.YtnhopmoboahlgaaDoor
open Go.RowKit Go.Shelf
set_option linter.unusedVariables false
abbrev AskY (n d : Int) (r : Bool) : Prop := ∀ w, Calls Tryd.prog 13 #[rv n d] w fun e w' => e = .returned (.bool r) ∧ Below w.heap.size w w'
theorem xadd_not1 (an ad bn bd : Int) (w : World) (HR : Hid (AskY an ad false)) :
    Calls Tryd.prog 15 #[rv an ad, rv bn bd] w fun e w' => e = .returned (.tuple #[rv 0 0, .int .i64 7]) ∧ Below w.heap.size w w' := by
  have n1 : ¬ w.heap.size = w.heap.size + 1 + 1 := by omega
  have n2 : ¬ w.heap.size + 1 + 1 = w.heap.size := by omega
  go_enter Tryd.func15, Tryd.ntmps15
  go_wp2_with fail
  refine (HR.out _).mono ?_
  rintro e w1 ⟨rfl, hb⟩
  have s0 := kc ⟨w.heap.size, 0, none⟩ (.int .i64 an) hb (by first | assumption | simp [go_sem, *])
  have s1 := kc ⟨w.heap.size, 1, none⟩ (.int .i64 ad) hb (by first | assumption | simp [go_sem, *])
  have s2 := kc ⟨w.heap.size + 1, 0, none⟩ (.int .i64 bn) hb (by first | assumption | simp [go_sem, *])
  have s3 := kc ⟨w.heap.size + 1, 1, none⟩ (.int .i64 bd) hb (by first | assumption | simp [go_sem, *])
  have s4 := kc ⟨w.heap.size + 1 + 1, 0, none⟩ (.int .i64 0) hb (by first | assumption | simp [go_sem, *])
  have s5 := kc ⟨w.heap.size + 1 + 1, 1, none⟩ (.int .i64 0) hb (by first | assumption | simp [go_sem, *])
  have sf0 := kf ⟨w.heap.size + 1 + 1, 0, none⟩ (.int .i64 0) hb (by first | assumption | simp [go_sem, *]) (by first | assumption | simp [go_sem, *])
  have sf1 := kf ⟨w.heap.size + 1 + 1, 1, none⟩ (.int .i64 0) hb (by first | assumption | simp [go_sem, *]) (by first | assumption | simp [go_sem, *])
  have hB := beyond (three w _ _ _) hb
  clear hb
  go_wp2_with fail
  refine bodyPost_ret (v := .tuple #[rv 0 0, .int .i64 7]) (by simp [results, Tryd.results15, go_sem, *]) rfl ⟨rfl, ?_⟩
  first | exact hB | exact set2 hB (by omega) _ _
theorem xadd_not2 (an ad bn bd : Int) (w : World) (HR : Hid (AskY an ad true)) (HR2 : Hid (AskY bn bd false)) :
    Calls Tryd.prog 15 #[rv an ad, rv bn bd] w fun e w' => e = .returned (.tuple #[rv 0 0, .int .i64 7]) ∧ Below w.heap.size w w' := by
  have n1 : ¬ w.heap.size = w.heap.size + 1 + 1 := by omega
  have n2 : ¬ w.heap.size + 1 + 1 = w.heap.size := by omega
  go_enter Tryd.func15, Tryd.ntmps15
  go_wp2_with fail
  refine (HR.out _).mono ?_
  rintro e w1 ⟨rfl, hb⟩
  have s0 := kc ⟨w.heap.size, 0, none⟩ (.int .i64 an) hb (by first | assumption | simp [go_sem, *])
  have s1 := kc ⟨w.heap.size, 1, none⟩ (.int .i64 ad) hb (by first | assumption | simp [go_sem, *])
  have s2 := kc ⟨w.heap.size + 1, 0, none⟩ (.int .i64 bn) hb (by first | assumption | simp [go_sem, *])
  have s3 := kc ⟨w.heap.size + 1, 1, none⟩ (.int .i64 bd) hb (by first | assumption | simp [go_sem, *])
  have s4 := kc ⟨w.heap.size + 1 + 1, 0, none⟩ (.int .i64 0) hb (by first | assumption | simp [go_sem, *])
  have s5 := kc ⟨w.heap.size + 1 + 1, 1, none⟩ (.int .i64 0) hb (by first | assumption | simp [go_sem, *])
  have sf0 := kf ⟨w.heap.size + 1 + 1, 0, none⟩ (.int .i64 0) hb (by first | assumption | simp [go_sem, *]) (by first | assumption | simp [go_sem, *])
  have sf1 := kf ⟨w.heap.size + 1 + 1, 1, none⟩ (.int .i64 0) hb (by first | assumption | simp [go_sem, *]) (by first | assumption | simp [go_sem, *])
  have hB := beyond (three w _ _ _) hb
  clear hb
  go_wp2_with fail
  refine (HR2.out _).mono ?_
  rintro e w2 ⟨rfl, hb2⟩
  have u0 := kc ⟨w.heap.size, 0, none⟩ (.int .i64 an) hb2 (by first | assumption | simp [go_sem, *])
  have u1 := kc ⟨w.heap.size, 1, none⟩ (.int .i64 ad) hb2 (by first | assumption | simp [go_sem, *])
  have u2 := kc ⟨w.heap.size + 1, 0, none⟩ (.int .i64 bn) hb2 (by first | assumption | simp [go_sem, *])
  have u3 := kc ⟨w.heap.size + 1, 1, none⟩ (.int .i64 bd) hb2 (by first | assumption | simp [go_sem, *])
  have u4 := kc ⟨w.heap.size + 1 + 1, 0, none⟩ (.int .i64 0) hb2 (by first | assumption | simp [go_sem, *])
  have u5 := kc ⟨w.heap.size + 1 + 1, 1, none⟩ (.int .i64 0) hb2 (by first | assumption | simp [go_sem, *])
  have uf0 := kf ⟨w.heap.size + 1 + 1, 0, none⟩ (.int .i64 0) hb2 (by first | assumption | simp [go_sem, *]) (by first | assumption | simp [go_sem, *])
  have uf1 := kf ⟨w.heap.size + 1 + 1, 1, none⟩ (.int .i64 0) hb2 (by first | assumption | simp [go_sem, *]) (by first | assumption | simp [go_sem, *])
  have hB2 := beyond hB hb2
  clear hb2 hB s0 s1 s2 s3 s4 s5 sf0 sf1
  go_wp2_with fail
  refine bodyPost_ret (v := .tuple #[rv 0 0, .int .i64 7]) (by simp [results, Tryd.results15, go_sem, *]) rfl ⟨rfl, ?_⟩
  first | exact hB2 | exact set2 hB2 (by omega) _ _
set_option maxRecDepth 100000 in
set_option maxHeartbeats 4000000 in
theorem xadd_yes (an ad bn bd : Int) (t : Int × Int × Int) (w : World) (HR : Hid (AskY an ad true)) (HR2 : Hid (AskY bn bd true))
    (HS : Hid (∀ w, Calls Tryd.prog 45 #[rv an ad, rv bn bd] w fun e w' => e = .returned (trip t) ∧ Below w.heap.size w w')) :
    Calls Tryd.prog 15 #[rv an ad, rv bn bd] w fun e w' => e = .returned (trip t) ∧ Below w.heap.size w w' := by
  obtain ⟨tn, td, te⟩ := t
  have n1 : ¬ w.heap.size = w.heap.size + 1 + 1 := by omega
  have n2 : ¬ w.heap.size + 1 + 1 = w.heap.size := by omega
  go_enter Tryd.func15, Tryd.ntmps15
  go_wp2_with fail
  refine (HR.out _).mono ?_
  rintro e w1 ⟨rfl, hb⟩
  have s0 := kc ⟨w.heap.size, 0, none⟩ (.int .i64 an) hb (by first | assumption | simp [go_sem, *])
  have s1 := kc ⟨w.heap.size, 1, none⟩ (.int .i64 ad) hb (by first | assumption | simp [go_sem, *])
  have s2 := kc ⟨w.heap.size + 1, 0, none⟩ (.int .i64 bn) hb (by first | assumption | simp [go_sem, *])
  have s3 := kc ⟨w.heap.size + 1, 1, none⟩ (.int .i64 bd) hb (by first | assumption | simp [go_sem, *])
  have s4 := kc ⟨w.heap.size + 1 + 1, 0, none⟩ (.int .i64 0) hb (by first | assumption | simp [go_sem, *])
  have s5 := kc ⟨w.heap.size + 1 + 1, 1, none⟩ (.int .i64 0) hb (by first | assumption | simp [go_sem, *])
  have sf0 := kf ⟨w.heap.size + 1 + 1, 0, none⟩ (.int .i64 0) hb (by first | assumption | simp [go_sem, *]) (by first | assumption | simp [go_sem, *])
  have sf1 := kf ⟨w.heap.size + 1 + 1, 1, none⟩ (.int .i64 0) hb (by first | assumption | simp [go_sem, *]) (by first | assumption | simp [go_sem, *])
  have hB := beyond (three w _ _ _) hb
  clear hb
  go_wp2_with fail
  refine (HR2.out _).mono ?_
  rintro e w2 ⟨rfl, hb2⟩
  have u0 := kc ⟨w.heap.size, 0, none⟩ (.int .i64 an) hb2 (by first | assumption | simp [go_sem, *])
  have u1 := kc ⟨w.heap.size, 1, none⟩ (.int .i64 ad) hb2 (by first | assumption | simp [go_sem, *])
  have u2 := kc ⟨w.heap.size + 1, 0, none⟩ (.int .i64 bn) hb2 (by first | assumption | simp [go_sem, *])
  have u3 := kc ⟨w.heap.size + 1, 1, none⟩ (.int .i64 bd) hb2 (by first | assumption | simp [go_sem, *])
  have u4 := kc ⟨w.heap.size + 1 + 1, 0, none⟩ (.int .i64 0) hb2 (by first | assumption | simp [go_sem, *])
  have u5 := kc ⟨w.heap.size + 1 + 1, 1, none⟩ (.int .i64 0) hb2 (by first | assumption | simp [go_sem, *])
  have uf0 := kf ⟨w.heap.size + 1 + 1, 0, none⟩ (.int .i64 0) hb2 (by first | assumption | simp [go_sem, *]) (by first | assumption | simp [go_sem, *])
  have uf1 := kf ⟨w.heap.size + 1 + 1, 1, none⟩ (.int .i64 0) hb2 (by first | assumption | simp [go_sem, *]) (by first | assumption | simp [go_sem, *])
  have hB2 := beyond hB hb2
  clear hb2 hB s0 s1 s2 s3 s4 s5 sf0 sf1
  go_wp2_with fail
  refine (HS.out _).mono ?_
  rintro e w3 ⟨rfl, hb3⟩
  have v0 := kc ⟨w.heap.size + 1 + 1, 0, none⟩ (.int .i64 0) hb3 u4
  have vf0 := kf ⟨w.heap.size + 1 + 1, 0, none⟩ (.int .i64 0) hb3 u4 uf0
  have v1 := kc ⟨w.heap.size + 1 + 1, 1, none⟩ (.int .i64 0) hb3 u5
  have vf1 := kf ⟨w.heap.size + 1 + 1, 1, none⟩ (.int .i64 0) hb3 u5 uf1
  have hB3 := beyond hB2 hb3
  clear hb3 hB2 u0 u1 u2 u3 u4 u5 uf0 uf1
  go_wp2_with fail
  refine bodyPost_ret (v := trip (tn, td, te)) (by simp [results, Tryd.results15, go_sem, *]) rfl ⟨rfl, ?_⟩
  first | exact hB3 | exact set2 hB3 (by omega) _ _
theorem xsub_not1 (an ad bn bd : Int) (w : World) (HR : Hid (AskY an ad false)) :
    Calls Tryd.prog 17 #[rv an ad, rv bn bd] w fun e w' => e = .returned (.tuple #[rv 0 0, .int .i64 7]) ∧ Below w.heap.size w w' := by
  have n1 : ¬ w.heap.size = w.heap.size + 1 + 1 := by omega
  have n2 : ¬ w.heap.size + 1 + 1 = w.heap.size := by omega
  go_enter Tryd.func17, Tryd.ntmps17
  go_wp2_with fail
  refine (HR.out _).mono ?_
  rintro e w1 ⟨rfl, hb⟩
  have s0 := kc ⟨w.heap.size, 0, none⟩ (.int .i64 an) hb (by first | assumption | simp [go_sem, *])
  have s1 := kc ⟨w.heap.size, 1, none⟩ (.int .i64 ad) hb (by first | assumption | simp [go_sem, *])
  have s2 := kc ⟨w.heap.size + 1, 0, none⟩ (.int .i64 bn) hb (by first | assumption | simp [go_sem, *])
  have s3 := kc ⟨w.heap.size + 1, 1, none⟩ (.int .i64 bd) hb (by first | assumption | simp [go_sem, *])
  have s4 := kc ⟨w.heap.size + 1 + 1, 0, none⟩ (.int .i64 0) hb (by first | assumption | simp [go_sem, *])
  have s5 := kc ⟨w.heap.size + 1 + 1, 1, none⟩ (.int .i64 0) hb (by first | assumption | simp [go_sem, *])
  have sf0 := kf ⟨w.heap.size + 1 + 1, 0, none⟩ (.int .i64 0) hb (by first | assumption | simp [go_sem, *]) (by first | assumption | simp [go_sem, *])
  have sf1 := kf ⟨w.heap.size + 1 + 1, 1, none⟩ (.int .i64 0) hb (by first | assumption | simp [go_sem, *]) (by first | assumption | simp [go_sem, *])
  have hB := beyond (three w _ _ _) hb
  clear hb
  go_wp2_with fail
  refine bodyPost_ret (v := .tuple #[rv 0 0, .int .i64 7]) (by simp [results, Tryd.results17, go_sem, *]) rfl ⟨rfl, ?_⟩
  first | exact hB | exact set2 hB (by omega) _ _
theorem xsub_not2 (an ad bn bd : Int) (w : World) (HR : Hid (AskY an ad true)) (HR2 : Hid (AskY bn bd false)) :
    Calls Tryd.prog 17 #[rv an ad, rv bn bd] w fun e w' => e = .returned (.tuple #[rv 0 0, .int .i64 7]) ∧ Below w.heap.size w w' := by
  have n1 : ¬ w.heap.size = w.heap.size + 1 + 1 := by omega
  have n2 : ¬ w.heap.size + 1 + 1 = w.heap.size := by omega
  go_enter Tryd.func17, Tryd.ntmps17
  go_wp2_with fail
  refine (HR.out _).mono ?_
  rintro e w1 ⟨rfl, hb⟩
  have s0 := kc ⟨w.heap.size, 0, none⟩ (.int .i64 an) hb (by first | assumption | simp [go_sem, *])
  have s1 := kc ⟨w.heap.size, 1, none⟩ (.int .i64 ad) hb (by first | assumption | simp [go_sem, *])
  have s2 := kc ⟨w.heap.size + 1, 0, none⟩ (.int .i64 bn) hb (by first | assumption | simp [go_sem, *])
  have s3 := kc ⟨w.heap.size + 1, 1, none⟩ (.int .i64 bd) hb (by first | assumption | simp [go_sem, *])
  have s4 := kc ⟨w.heap.size + 1 + 1, 0, none⟩ (.int .i64 0) hb (by first | assumption | simp [go_sem, *])
  have s5 := kc ⟨w.heap.size + 1 + 1, 1, none⟩ (.int .i64 0) hb (by first | assumption | simp [go_sem, *])
  have sf0 := kf ⟨w.heap.size + 1 + 1, 0, none⟩ (.int .i64 0) hb (by first | assumption | simp [go_sem, *]) (by first | assumption | simp [go_sem, *])
  have sf1 := kf ⟨w.heap.size + 1 + 1, 1, none⟩ (.int .i64 0) hb (by first | assumption | simp [go_sem, *]) (by first | assumption | simp [go_sem, *])
  have hB := beyond (three w _ _ _) hb
  clear hb
  go_wp2_with fail
  refine (HR2.out _).mono ?_
  rintro e w2 ⟨rfl, hb2⟩
  have u0 := kc ⟨w.heap.size, 0, none⟩ (.int .i64 an) hb2 (by first | assumption | simp [go_sem, *])
  have u1 := kc ⟨w.heap.size, 1, none⟩ (.int .i64 ad) hb2 (by first | assumption | simp [go_sem, *])
  have u2 := kc ⟨w.heap.size + 1, 0, none⟩ (.int .i64 bn) hb2 (by first | assumption | simp [go_sem, *])
  have u3 := kc ⟨w.heap.size + 1, 1, none⟩ (.int .i64 bd) hb2 (by first | assumption | simp [go_sem, *])
  have u4 := kc ⟨w.heap.size + 1 + 1, 0, none⟩ (.int .i64 0) hb2 (by first | assumption | simp [go_sem, *])
  have u5 := kc ⟨w.heap.size + 1 + 1, 1, none⟩ (.int .i64 0) hb2 (by first | assumption | simp [go_sem, *])
  have uf0 := kf ⟨w.heap.size + 1 + 1, 0, none⟩ (.int .i64 0) hb2 (by first | assumption | simp [go_sem, *]) (by first | assumption | simp [go_sem, *])
  have uf1 := kf ⟨w.heap.size + 1 + 1, 1, none⟩ (.int .i64 0) hb2 (by first | assumption | simp [go_sem, *]) (by first | assumption | simp [go_sem, *])
  have hB2 := beyond hB hb2
  clear hb2 hB s0 s1 s2 s3 s4 s5 sf0 sf1
  go_wp2_with fail
  refine bodyPost_ret (v := .tuple #[rv 0 0, .int .i64 7]) (by simp [results, Tryd.results17, go_sem, *]) rfl ⟨rfl, ?_⟩
  first | exact hB2 | exact set2 hB2 (by omega) _ _
set_option maxRecDepth 100000 in
set_option maxHeartbeats 4000000 in
theorem xsub_yes (an ad bn bd : Int) (t : Int × Int × Int) (w : World) (HR : Hid (AskY an ad true)) (HR2 : Hid (AskY bn bd true))
    (HS : Hid (∀ w, Calls Tryd.prog 47 #[rv an ad, rv bn bd] w fun e w' => e = .returned (trip t) ∧ Below w.heap.size w w')) :
    Calls Tryd.prog 17 #[rv an ad, rv bn bd] w fun e w' => e = .returned (trip t) ∧ Below w.heap.size w w' := by
  obtain ⟨tn, td, te⟩ := t
  have n1 : ¬ w.heap.size = w.heap.size + 1 + 1 := by omega
  have n2 : ¬ w.heap.size + 1 + 1 = w.heap.size := by omega
  go_enter Tryd.func17, Tryd.ntmps17
  go_wp2_with fail
  refine (HR.out _).mono ?_
  rintro e w1 ⟨rfl, hb⟩
  have s0 := kc ⟨w.heap.size, 0, none⟩ (.int .i64 an) hb (by first | assumption | simp [go_sem, *])
  have s1 := kc ⟨w.heap.size, 1, none⟩ (.int .i64 ad) hb (by first | assumption | simp [go_sem, *])
  have s2 := kc ⟨w.heap.size + 1, 0, none⟩ (.int .i64 bn) hb (by first | assumption | simp [go_sem, *])
  have s3 := kc ⟨w.heap.size + 1, 1, none⟩ (.int .i64 bd) hb (by first | assumption | simp [go_sem, *])
  have s4 := kc ⟨w.heap.size + 1 + 1, 0, none⟩ (.int .i64 0) hb (by first | assumption | simp [go_sem, *])
  have s5 := kc ⟨w.heap.size + 1 + 1, 1, none⟩ (.int .i64 0) hb (by first | assumption | simp [go_sem, *])
  have sf0 := kf ⟨w.heap.size + 1 + 1, 0, none⟩ (.int .i64 0) hb (by first | assumption | simp [go_sem, *]) (by first | assumption | simp [go_sem, *])
  have sf1 := kf ⟨w.heap.size + 1 + 1, 1, none⟩ (.int .i64 0) hb (by first | assumption | simp [go_sem, *]) (by first | assumption | simp [go_sem, *])
  have hB := beyond (three w _ _ _) hb
  clear hb
  go_wp2_with fail
  refine (HR2.out _).mono ?_
  rintro e w2 ⟨rfl, hb2⟩
  have u0 := kc ⟨w.heap.size, 0, none⟩ (.int .i64 an) hb2 (by first | assumption | simp [go_sem, *])
  have u1 := kc ⟨w.heap.size, 1, none⟩ (.int .i64 ad) hb2 (by first | assumption | simp [go_sem, *])
  have u2 := kc ⟨w.heap.size + 1, 0, none⟩ (.int .i64 bn) hb2 (by first | assumption | simp [go_sem, *])
  have u3 := kc ⟨w.heap.size + 1, 1, none⟩ (.int .i64 bd) hb2 (by first | assumption | simp [go_sem, *])
  have u4 := kc ⟨w.heap.size + 1 + 1, 0, none⟩ (.int .i64 0) hb2 (by first | assumption | simp [go_sem, *])
  have u5 := kc ⟨w.heap.size + 1 + 1, 1, none⟩ (.int .i64 0) hb2 (by first | assumption | simp [go_sem, *])
  have uf0 := kf ⟨w.heap.size + 1 + 1, 0, none⟩ (.int .i64 0) hb2 (by first | assumption | simp [go_sem, *]) (by first | assumption | simp [go_sem, *])
  have uf1 := kf ⟨w.heap.size + 1 + 1, 1, none⟩ (.int .i64 0) hb2 (by first | assumption | simp [go_sem, *]) (by first | assumption | simp [go_sem, *])
  have hB2 := beyond hB hb2
  clear hb2 hB s0 s1 s2 s3 s4 s5 sf0 sf1
  go_wp2_with fail
  refine (HS.out _).mono ?_
  rintro e w3 ⟨rfl, hb3⟩
  have v0 := kc ⟨w.heap.size + 1 + 1, 0, none⟩ (.int .i64 0) hb3 u4
  have vf0 := kf ⟨w.heap.size + 1 + 1, 0, none⟩ (.int .i64 0) hb3 u4 uf0
  have v1 := kc ⟨w.heap.size + 1 + 1, 1, none⟩ (.int .i64 0) hb3 u5
  have vf1 := kf ⟨w.heap.size + 1 + 1, 1, none⟩ (.int .i64 0) hb3 u5 uf1
  have hB3 := beyond hB2 hb3
  clear hb3 hB2 u0 u1 u2 u3 u4 u5 uf0 uf1
  go_wp2_with fail
  refine bodyPost_ret (v := trip (tn, td, te)) (by simp [results, Tryd.results17, go_sem, *]) rfl ⟨rfl, ?_⟩
  first | exact hB3 | exact set2 hB3 (by omega) _ _
theorem xmulr_not1 (an ad bn bd : Int) (w : World) (HR : Hid (AskY an ad false)) :
    Calls Tryd.prog 19 #[rv an ad, rv bn bd] w fun e w' => e = .returned (.tuple #[rv 0 0, .int .i64 7]) ∧ Below w.heap.size w w' := by
  have n1 : ¬ w.heap.size = w.heap.size + 1 + 1 := by omega
  have n2 : ¬ w.heap.size + 1 + 1 = w.heap.size := by omega
  go_enter Tryd.func19, Tryd.ntmps19
  go_wp2_with fail
  refine (HR.out _).mono ?_
  rintro e w1 ⟨rfl, hb⟩
  have s0 := kc ⟨w.heap.size, 0, none⟩ (.int .i64 an) hb (by first | assumption | simp [go_sem, *])
  have s1 := kc ⟨w.heap.size, 1, none⟩ (.int .i64 ad) hb (by first | assumption | simp [go_sem, *])
  have s2 := kc ⟨w.heap.size + 1, 0, none⟩ (.int .i64 bn) hb (by first | assumption | simp [go_sem, *])
  have s3 := kc ⟨w.heap.size + 1, 1, none⟩ (.int .i64 bd) hb (by first | assumption | simp [go_sem, *])
  have s4 := kc ⟨w.heap.size + 1 + 1, 0, none⟩ (.int .i64 0) hb (by first | assumption | simp [go_sem, *])
  have s5 := kc ⟨w.heap.size + 1 + 1, 1, none⟩ (.int .i64 0) hb (by first | assumption | simp [go_sem, *])
  have sf0 := kf ⟨w.heap.size + 1 + 1, 0, none⟩ (.int .i64 0) hb (by first | assumption | simp [go_sem, *]) (by first | assumption | simp [go_sem, *])
  have sf1 := kf ⟨w.heap.size + 1 + 1, 1, none⟩ (.int .i64 0) hb (by first | assumption | simp [go_sem, *]) (by first | assumption | simp [go_sem, *])
  have hB := beyond (three w _ _ _) hb
  clear hb
  go_wp2_with fail
  refine bodyPost_ret (v := .tuple #[rv 0 0, .int .i64 7]) (by simp [results, Tryd.results19, go_sem, *]) rfl ⟨rfl, ?_⟩
  first | exact hB | exact set2 hB (by omega) _ _
theorem xmulr_not2 (an ad bn bd : Int) (w : World) (HR : Hid (AskY an ad true)) (HR2 : Hid (AskY bn bd false)) :
    Calls Tryd.prog 19 #[rv an ad, rv bn bd] w fun e w' => e = .returned (.tuple #[rv 0 0, .int .i64 7]) ∧ Below w.heap.size w w' := by
  have n1 : ¬ w.heap.size = w.heap.size + 1 + 1 := by omega
  have n2 : ¬ w.heap.size + 1 + 1 = w.heap.size := by omega
  go_enter Tryd.func19, Tryd.ntmps19
  go_wp2_with fail
  refine (HR.out _).mono ?_
  rintro e w1 ⟨rfl, hb⟩
  have s0 := kc ⟨w.heap.size, 0, none⟩ (.int .i64 an) hb (by first | assumption | simp [go_sem, *])
  have s1 := kc ⟨w.heap.size, 1, none⟩ (.int .i64 ad) hb (by first | assumption | simp [go_sem, *])
  have s2 := kc ⟨w.heap.size + 1, 0, none⟩ (.int .i64 bn) hb (by first | assumption | simp [go_sem, *])
  have s3 := kc ⟨w.heap.size + 1, 1, none⟩ (.int .i64 bd) hb (by first | assumption | simp [go_sem, *])
  have s4 := kc ⟨w.heap.size + 1 + 1, 0, none⟩ (.int .i64 0) hb (by first | assumption | simp [go_sem, *])
  have s5 := kc ⟨w.heap.size + 1 + 1, 1, none⟩ (.int .i64 0) hb (by first | assumption | simp [go_sem, *])
  have sf0 := kf ⟨w.heap.size + 1 + 1, 0, none⟩ (.int .i64 0) hb (by first | assumption | simp [go_sem, *]) (by first | assumption | simp [go_sem, *])
  have sf1 := kf ⟨w.heap.size + 1 + 1, 1, none⟩ (.int .i64 0) hb (by first | assumption | simp [go_sem, *]) (by first | assumption | simp [go_sem, *])
  have hB := beyond (three w _ _ _) hb
  clear hb
  go_wp2_with fail
  refine (HR2.out _).mono ?_
  rintro e w2 ⟨rfl, hb2⟩
  have u0 := kc ⟨w.heap.size, 0, none⟩ (.int .i64 an) hb2 (by first | assumption | simp [go_sem, *])
  have u1 := kc ⟨w.heap.size, 1, none⟩ (.int .i64 ad) hb2 (by first | assumption | simp [go_sem, *])
  have u2 := kc ⟨w.heap.size + 1, 0, none⟩ (.int .i64 bn) hb2 (by first | assumption | simp [go_sem, *])
  have u3 := kc ⟨w.heap.size + 1, 1, none⟩ (.int .i64 bd) hb2 (by first | assumption | simp [go_sem, *])
  have u4 := kc ⟨w.heap.size + 1 + 1, 0, none⟩ (.int .i64 0) hb2 (by first | assumption | simp [go_sem, *])
  have u5 := kc ⟨w.heap.size + 1 + 1, 1, none⟩ (.int .i64 0) hb2 (by first | assumption | simp [go_sem, *])
  have uf0 := kf ⟨w.heap.size + 1 + 1, 0, none⟩ (.int .i64 0) hb2 (by first | assumption | simp [go_sem, *]) (by first | assumption | simp [go_sem, *])
  have uf1 := kf ⟨w.heap.size + 1 + 1, 1, none⟩ (.int .i64 0) hb2 (by first | assumption | simp [go_sem, *]) (by first | assumption | simp [go_sem, *])
  have hB2 := beyond hB hb2
  clear hb2 hB s0 s1 s2 s3 s4 s5 sf0 sf1
  go_wp2_with fail
  refine bodyPost_ret (v := .tuple #[rv 0 0, .int .i64 7]) (by simp [results, Tryd.results19, go_sem, *]) rfl ⟨rfl, ?_⟩
  first | exact hB2 | exact set2 hB2 (by omega) _ _
set_option maxRecDepth 100000 in
set_option maxHeartbeats 4000000 in
theorem xmulr_yes (an ad bn bd sa sb xh xl dh dl : Int) (ga gb : Bool) (t : Int × Int × Int) (w : World) (hga : decide (an < 0) = ga) (hgb : decide (bn < 0) = gb) (wa : IntKind.u64.wrap ad = ad) (wb : IntKind.u64.wrap bd = bd) (HR : Hid (AskY an ad true)) (HR2 : Hid (AskY bn bd true))
    (HSa : Hid (∀ w, Calls Tryd.prog 39 #[.int .i64 an] w fun e w' => e = .returned (.int .u64 sa) ∧ w' = w))
    (HSb : Hid (∀ w, Calls Tryd.prog 39 #[.int .i64 bn] w fun e w' => e = .returned (.int .u64 sb) ∧ w' = w))
    (HMx : Hid (∀ w, Calls Tryd.prog 49 #[.int .u64 sa, .int .u64 sb] w fun e w' => e = .returned (.agg #[.int .u64 xh, .int .u64 xl]) ∧ Below w.heap.size w w'))
    (HMd : Hid (∀ w, Calls Tryd.prog 49 #[.int .u64 ad, .int .u64 bd] w fun e w' => e = .returned (.agg #[.int .u64 dh, .int .u64 dl]) ∧ Below w.heap.size w w'))
    (HH : Hid (∀ w, Calls Tryd.prog 38 #[.bool (ga != gb), .agg #[.int .u64 xh, .int .u64 xl], .agg #[.int .u64 dh, .int .u64 dl]] w fun e w' => e = .returned (trip t) ∧ Below w.heap.size w w')) :
    Calls Tryd.prog 19 #[rv an ad, rv bn bd] w fun e w' => e = .returned (trip t) ∧ Below w.heap.size w w' := by
  obtain ⟨tn, td, te⟩ := t
  have n1 : ¬ w.heap.size = w.heap.size + 1 + 1 := by omega
  have n2 : ¬ w.heap.size + 1 + 1 = w.heap.size := by omega
  go_enter Tryd.func19, Tryd.ntmps19
  go_wp2_with fail
  refine (HR.out _).mono ?_
  rintro e w1 ⟨rfl, hb⟩
  have s0 := kc ⟨w.heap.size, 0, none⟩ (.int .i64 an) hb (by first | assumption | simp [go_sem, *])
  have s1 := kc ⟨w.heap.size, 1, none⟩ (.int .i64 ad) hb (by first | assumption | simp [go_sem, *])
  have s2 := kc ⟨w.heap.size + 1, 0, none⟩ (.int .i64 bn) hb (by first | assumption | simp [go_sem, *])
  have s3 := kc ⟨w.heap.size + 1, 1, none⟩ (.int .i64 bd) hb (by first | assumption | simp [go_sem, *])
  have s4 := kc ⟨w.heap.size + 1 + 1, 0, none⟩ (.int .i64 0) hb (by first | assumption | simp [go_sem, *])
  have s5 := kc ⟨w.heap.size + 1 + 1, 1, none⟩ (.int .i64 0) hb (by first | assumption | simp [go_sem, *])
  have sf0 := kf ⟨w.heap.size + 1 + 1, 0, none⟩ (.int .i64 0) hb (by first | assumption | simp [go_sem, *]) (by first | assumption | simp [go_sem, *])
  have sf1 := kf ⟨w.heap.size + 1 + 1, 1, none⟩ (.int .i64 0) hb (by first | assumption | simp [go_sem, *]) (by first | assumption | simp [go_sem, *])
  have hB := beyond (three w _ _ _) hb
  clear hb
  go_wp2_with fail
  refine (HR2.out _).mono ?_
  rintro e w2 ⟨rfl, hb2⟩
  have u0 := kc ⟨w.heap.size, 0, none⟩ (.int .i64 an) hb2 (by first | assumption | simp [go_sem, *])
  have u1 := kc ⟨w.heap.size, 1, none⟩ (.int .i64 ad) hb2 (by first | assumption | simp [go_sem, *])
  have u2 := kc ⟨w.heap.size + 1, 0, none⟩ (.int .i64 bn) hb2 (by first | assumption | simp [go_sem, *])
  have u3 := kc ⟨w.heap.size + 1, 1, none⟩ (.int .i64 bd) hb2 (by first | assumption | simp [go_sem, *])
  have u4 := kc ⟨w.heap.size + 1 + 1, 0, none⟩ (.int .i64 0) hb2 (by first | assumption | simp [go_sem, *])
  have u5 := kc ⟨w.heap.size + 1 + 1, 1, none⟩ (.int .i64 0) hb2 (by first | assumption | simp [go_sem, *])
  have uf0 := kf ⟨w.heap.size + 1 + 1, 0, none⟩ (.int .i64 0) hb2 (by first | assumption | simp [go_sem, *]) (by first | assumption | simp [go_sem, *])
  have uf1 := kf ⟨w.heap.size + 1 + 1, 1, none⟩ (.int .i64 0) hb2 (by first | assumption | simp [go_sem, *]) (by first | assumption | simp [go_sem, *])
  have hB2 := beyond hB hb2
  clear hb2 hB s0 s1 s2 s3 s4 s5 sf0 sf1
  go_upto_region 3 with (fail)
  go_region_held3 (fun w' => w'.cell? ⟨w.heap.size, 0, none⟩ = some (.int .i64 an) ∧ w'.cell? ⟨w.heap.size, 1, none⟩ = some (.int .i64 ad) ∧ w'.cell? ⟨w.heap.size + 1, 0, none⟩ = some (.int .i64 bn) ∧ w'.cell? ⟨w.heap.size + 1, 1, none⟩ = some (.int .i64 bd))
    (first | exact ⟨by assumption, by assumption, by assumption, by assumption⟩ | go_keep)
    (first
      | (go_at_call_of 39 an; refine (HSa.out _).mono ?_; rintro e' w' ⟨rfl, rfl⟩)
      | (go_at_call 39; refine (HSb.out _).mono ?_; rintro e' w' ⟨rfl, rfl⟩)
      | (go_at_call_of 49 sa; refine (HMx.out _).mono ?_; rintro e' w' ⟨rfl, hb⟩; have v0 := kc ⟨w.heap.size, 0, none⟩ (.int .i64 an) hb (by first | assumption | simp [go_sem, *]); have v1 := kc ⟨w.heap.size, 1, none⟩ (.int .i64 ad) hb (by first | assumption | simp [go_sem, *]); have v2 := kc ⟨w.heap.size + 1, 0, none⟩ (.int .i64 bn) hb (by first | assumption | simp [go_sem, *]); have v3 := kc ⟨w.heap.size + 1, 1, none⟩ (.int .i64 bd) hb (by first | assumption | simp [go_sem, *]); have v4 := kc ⟨w.heap.size + 1 + 1, 0, none⟩ (.int .i64 0) hb (by first | assumption | simp [go_sem, *]); have v5 := kc ⟨w.heap.size + 1 + 1, 1, none⟩ (.int .i64 0) hb (by first | assumption | simp [go_sem, *]); have vf0 := kf ⟨w.heap.size + 1 + 1, 0, none⟩ (.int .i64 0) hb (by first | assumption | simp [go_sem, *]) (by first | assumption | simp [go_sem, *]); have vf1 := kf ⟨w.heap.size + 1 + 1, 1, none⟩ (.int .i64 0) hb (by first | assumption | simp [go_sem, *]) (by first | assumption | simp [go_sem, *]); have hX := beyond (w := w) (by first | assumption | exact Below.drew hB2 | exact below_drewN hB2 _) hb)
      | (go_at_call 49; refine (HMd.out _).mono ?_; rintro e' w' ⟨rfl, hb⟩; have v0 := kc ⟨w.heap.size, 0, none⟩ (.int .i64 an) hb (by first | assumption | simp [go_sem, *]); have v1 := kc ⟨w.heap.size, 1, none⟩ (.int .i64 ad) hb (by first | assumption | simp [go_sem, *]); have v2 := kc ⟨w.heap.size + 1, 0, none⟩ (.int .i64 bn) hb (by first | assumption | simp [go_sem, *]); have v3 := kc ⟨w.heap.size + 1, 1, none⟩ (.int .i64 bd) hb (by first | assumption | simp [go_sem, *]); have v4 := kc ⟨w.heap.size + 1 + 1, 0, none⟩ (.int .i64 0) hb (by first | assumption | simp [go_sem, *]); have v5 := kc ⟨w.heap.size + 1 + 1, 1, none⟩ (.int .i64 0) hb (by first | assumption | simp [go_sem, *]); have vf0 := kf ⟨w.heap.size + 1 + 1, 0, none⟩ (.int .i64 0) hb (by first | assumption | simp [go_sem, *]) (by first | assumption | simp [go_sem, *]); have vf1 := kf ⟨w.heap.size + 1 + 1, 1, none⟩ (.int .i64 0) hb (by first | assumption | simp [go_sem, *]) (by first | assumption | simp [go_sem, *]); have hX := beyond (w := w) (by first | assumption | exact Below.drew hB2 | exact below_drewN hB2 _) hb)
      | (go_at_call 38; refine (HH.out _).mono ?_; rintro e' w' ⟨rfl, hb⟩; have v0 := kc ⟨w.heap.size, 0, none⟩ (.int .i64 an) hb (by first | assumption | simp [go_sem, *]); have v1 := kc ⟨w.heap.size, 1, none⟩ (.int .i64 ad) hb (by first | assumption | simp [go_sem, *]); have v2 := kc ⟨w.heap.size + 1, 0, none⟩ (.int .i64 bn) hb (by first | assumption | simp [go_sem, *]); have v3 := kc ⟨w.heap.size + 1, 1, none⟩ (.int .i64 bd) hb (by first | assumption | simp [go_sem, *]); have v4 := kc ⟨w.heap.size + 1 + 1, 0, none⟩ (.int .i64 0) hb (by first | assumption | simp [go_sem, *]); have v5 := kc ⟨w.heap.size + 1 + 1, 1, none⟩ (.int .i64 0) hb (by first | assumption | simp [go_sem, *]); have vf0 := kf ⟨w.heap.size + 1 + 1, 0, none⟩ (.int .i64 0) hb (by first | assumption | simp [go_sem, *]) (by first | assumption | simp [go_sem, *]); have vf1 := kf ⟨w.heap.size + 1 + 1, 1, none⟩ (.int .i64 0) hb (by first | assumption | simp [go_sem, *]) (by first | assumption | simp [go_sem, *]); have hX := beyond (w := w) (by first | assumption | exact Below.drew hB2 | exact below_drewN hB2 _) hb))
  all_goals
    go_wp2
    refine bodyPost_ret (v := trip (tn, td, te)) (by simp [results, Tryd.results19, go_sem, *]) rfl ⟨rfl, ?_⟩
    first | exact set2 (by assumption) (by omega) _ _ | assumption
theorem xdivr_not1 (an ad bn bd : Int) (w : World) (HR : Hid (AskY an ad false)) :
    Calls Tryd.prog 21 #[rv an ad, rv bn bd] w fun e w' => e = .returned (.tuple #[rv 0 0, .int .i64 7]) ∧ Below w.heap.size w w' := by
  have n1 : ¬ w.heap.size = w.heap.size + 1 + 1 := by omega
  have n2 : ¬ w.heap.size + 1 + 1 = w.heap.size := by omega
  go_enter Tryd.func21, Tryd.ntmps21
  go_wp2_with fail
  refine (HR.out _).mono ?_
  rintro e w1 ⟨rfl, hb⟩
  have s0 := kc ⟨w.heap.size, 0, none⟩ (.int .i64 an) hb (by first | assumption | simp [go_sem, *])
  have s1 := kc ⟨w.heap.size, 1, none⟩ (.int .i64 ad) hb (by first | assumption | simp [go_sem, *])
  have s2 := kc ⟨w.heap.size + 1, 0, none⟩ (.int .i64 bn) hb (by first | assumption | simp [go_sem, *])
  have s3 := kc ⟨w.heap.size + 1, 1, none⟩ (.int .i64 bd) hb (by first | assumption | simp [go_sem, *])
  have s4 := kc ⟨w.heap.size + 1 + 1, 0, none⟩ (.int .i64 0) hb (by first | assumption | simp [go_sem, *])
  have s5 := kc ⟨w.heap.size + 1 + 1, 1, none⟩ (.int .i64 0) hb (by first | assumption | simp [go_sem, *])
  have sf0 := kf ⟨w.heap.size + 1 + 1, 0, none⟩ (.int .i64 0) hb (by first | assumption | simp [go_sem, *]) (by first | assumption | simp [go_sem, *])
  have sf1 := kf ⟨w.heap.size + 1 + 1, 1, none⟩ (.int .i64 0) hb (by first | assumption | simp [go_sem, *]) (by first | assumption | simp [go_sem, *])
  have hB := beyond (three w _ _ _) hb
  clear hb
  go_wp2_with fail
  refine bodyPost_ret (v := .tuple #[rv 0 0, .int .i64 7]) (by simp [results, Tryd.results21, go_sem, *]) rfl ⟨rfl, ?_⟩
  first | exact hB | exact set2 hB (by omega) _ _
theorem xdivr_not2 (an ad bn bd : Int) (w : World) (HR : Hid (AskY an ad true)) (HR2 : Hid (AskY bn bd false)) :
    Calls Tryd.prog 21 #[rv an ad, rv bn bd] w fun e w' => e = .returned (.tuple #[rv 0 0, .int .i64 7]) ∧ Below w.heap.size w w' := by
  have n1 : ¬ w.heap.size = w.heap.size + 1 + 1 := by omega
  have n2 : ¬ w.heap.size + 1 + 1 = w.heap.size := by omega
  go_enter Tryd.func21, Tryd.ntmps21
  go_wp2_with fail
  refine (HR.out _).mono ?_
  rintro e w1 ⟨rfl, hb⟩
  have s0 := kc ⟨w.heap.size, 0, none⟩ (.int .i64 an) hb (by first | assumption | simp [go_sem, *])
  have s1 := kc ⟨w.heap.size, 1, none⟩ (.int .i64 ad) hb (by first | assumption | simp [go_sem, *])
  have s2 := kc ⟨w.heap.size + 1, 0, none⟩ (.int .i64 bn) hb (by first | assumption | simp [go_sem, *])
  have s3 := kc ⟨w.heap.size + 1, 1, none⟩ (.int .i64 bd) hb (by first | assumption | simp [go_sem, *])
  have s4 := kc ⟨w.heap.size + 1 + 1, 0, none⟩ (.int .i64 0) hb (by first | assumption | simp [go_sem, *])
  have s5 := kc ⟨w.heap.size + 1 + 1, 1, none⟩ (.int .i64 0) hb (by first | assumption | simp [go_sem, *])
  have sf0 := kf ⟨w.heap.size + 1 + 1, 0, none⟩ (.int .i64 0) hb (by first | assumption | simp [go_sem, *]) (by first | assumption | simp [go_sem, *])
  have sf1 := kf ⟨w.heap.size + 1 + 1, 1, none⟩ (.int .i64 0) hb (by first | assumption | simp [go_sem, *]) (by first | assumption | simp [go_sem, *])
  have hB := beyond (three w _ _ _) hb
  clear hb
  go_wp2_with fail
  refine (HR2.out _).mono ?_
  rintro e w2 ⟨rfl, hb2⟩
  have u0 := kc ⟨w.heap.size, 0, none⟩ (.int .i64 an) hb2 (by first | assumption | simp [go_sem, *])
  have u1 := kc ⟨w.heap.size, 1, none⟩ (.int .i64 ad) hb2 (by first | assumption | simp [go_sem, *])
  have u2 := kc ⟨w.heap.size + 1, 0, none⟩ (.int .i64 bn) hb2 (by first | assumption | simp [go_sem, *])
  have u3 := kc ⟨w.heap.size + 1, 1, none⟩ (.int .i64 bd) hb2 (by first | assumption | simp [go_sem, *])
  have u4 := kc ⟨w.heap.size + 1 + 1, 0, none⟩ (.int .i64 0) hb2 (by first | assumption | simp [go_sem, *])
  have u5 := kc ⟨w.heap.size + 1 + 1, 1, none⟩ (.int .i64 0) hb2 (by first | assumption | simp [go_sem, *])
  have uf0 := kf ⟨w.heap.size + 1 + 1, 0, none⟩ (.int .i64 0) hb2 (by first | assumption | simp [go_sem, *]) (by first | assumption | simp [go_sem, *])
  have uf1 := kf ⟨w.heap.size + 1 + 1, 1, none⟩ (.int .i64 0) hb2 (by first | assumption | simp [go_sem, *]) (by first | assumption | simp [go_sem, *])
  have hB2 := beyond hB hb2
  clear hb2 hB s0 s1 s2 s3 s4 s5 sf0 sf1
  go_wp2_with fail
  refine bodyPost_ret (v := .tuple #[rv 0 0, .int .i64 7]) (by simp [results, Tryd.results21, go_sem, *]) rfl ⟨rfl, ?_⟩
  first | exact hB2 | exact set2 hB2 (by omega) _ _
set_option maxRecDepth 100000 in
set_option maxHeartbeats 4000000 in
theorem xdivr_yes (an ad bn bd sa sb xh xl dh dl : Int) (ga gb : Bool) (t : Int × Int × Int) (w : World) (hga : decide (an < 0) = ga) (hgb : decide (bn < 0) = gb) (wa : IntKind.u64.wrap ad = ad) (wb : IntKind.u64.wrap bd = bd) (HR : Hid (AskY an ad true)) (HR2 : Hid (AskY bn bd true))
    (HSa : Hid (∀ w, Calls Tryd.prog 39 #[.int .i64 an] w fun e w' => e = .returned (.int .u64 sa) ∧ w' = w))
    (HSb : Hid (∀ w, Calls Tryd.prog 39 #[.int .i64 bn] w fun e w' => e = .returned (.int .u64 sb) ∧ w' = w))
    (HMx : Hid (∀ w, Calls Tryd.prog 49 #[.int .u64 sa, .int .u64 bd] w fun e w' => e = .returned (.agg #[.int .u64 xh, .int .u64 xl]) ∧ Below w.heap.size w w'))
    (HMd : Hid (∀ w, Calls Tryd.prog 49 #[.int .u64 ad, .int .u64 sb] w fun e w' => e = .returned (.agg #[.int .u64 dh, .int .u64 dl]) ∧ Below w.heap.size w w'))
    (HH : Hid (∀ w, Calls Tryd.prog 38 #[.bool (ga != gb), .agg #[.int .u64 xh, .int .u64 xl], .agg #[.int .u64 dh, .int .u64 dl]] w fun e w' => e = .returned (trip t) ∧ Below w.heap.size w w')) :
    Calls Tryd.prog 21 #[rv an ad, rv bn bd] w fun e w' => e = .returned (trip t) ∧ Below w.heap.size w w' := by
  obtain ⟨tn, td, te⟩ := t
  have n1 : ¬ w.heap.size = w.heap.size + 1 + 1 := by omega
  have n2 : ¬ w.heap.size + 1 + 1 = w.heap.size := by omega
  go_enter Tryd.func21, Tryd.ntmps21
  go_wp2_with fail
  refine (HR.out _).mono ?_
  rintro e w1 ⟨rfl, hb⟩
  have s0 := kc ⟨w.heap.size, 0, none⟩ (.int .i64 an) hb (by first | assumption | simp [go_sem, *])
  have s1 := kc ⟨w.heap.size, 1, none⟩ (.int .i64 ad) hb (by first | assumption | simp [go_sem, *])
  have s2 := kc ⟨w.heap.size + 1, 0, none⟩ (.int .i64 bn) hb (by first | assumption | simp [go_sem, *])
  have s3 := kc ⟨w.heap.size + 1, 1, none⟩ (.int .i64 bd) hb (by first | assumption | simp [go_sem, *])
  have s4 := kc ⟨w.heap.size + 1 + 1, 0, none⟩ (.int .i64 0) hb (by first | assumption | simp [go_sem, *])
  have s5 := kc ⟨w.heap.size + 1 + 1, 1, none⟩ (.int .i64 0) hb (by first | assumption | simp [go_sem, *])
  have sf0 := kf ⟨w.heap.size + 1 + 1, 0, none⟩ (.int .i64 0) hb (by first | assumption | simp [go_sem, *]) (by first | assumption | simp [go_sem, *])
  have sf1 := kf ⟨w.heap.size + 1 + 1, 1, none⟩ (.int .i64 0) hb (by first | assumption | simp [go_sem, *]) (by first | assumption | simp [go_sem, *])
  have hB := beyond (three w _ _ _) hb
  clear hb
  go_wp2_with fail
  refine (HR2.out _).mono ?_
  rintro e w2 ⟨rfl, hb2⟩
  have u0 := kc ⟨w.heap.size, 0, none⟩ (.int .i64 an) hb2 (by first | assumption | simp [go_sem, *])
  have u1 := kc ⟨w.heap.size, 1, none⟩ (.int .i64 ad) hb2 (by first | assumption | simp [go_sem, *])
  have u2 := kc ⟨w.heap.size + 1, 0, none⟩ (.int .i64 bn) hb2 (by first | assumption | simp [go_sem, *])
  have u3 := kc ⟨w.heap.size + 1, 1, none⟩ (.int .i64 bd) hb2 (by first | assumption | simp [go_sem, *])
  have u4 := kc ⟨w.heap.size + 1 + 1, 0, none⟩ (.int .i64 0) hb2 (by first | assumption | simp [go_sem, *])
  have u5 := kc ⟨w.heap.size + 1 + 1, 1, none⟩ (.int .i64 0) hb2 (by first | assumption | simp [go_sem, *])
  have uf0 := kf ⟨w.heap.size + 1 + 1, 0, none⟩ (.int .i64 0) hb2 (by first | assumption | simp [go_sem, *]) (by first | assumption | simp [go_sem, *])
  have uf1 := kf ⟨w.heap.size + 1 + 1, 1, none⟩ (.int .i64 0) hb2 (by first | assumption | simp [go_sem, *]) (by first | assumption | simp [go_sem, *])
  have hB2 := beyond hB hb2
  clear hb2 hB s0 s1 s2 s3 s4 s5 sf0 sf1
  go_upto_region 3 with (fail)
  go_region_held3 (fun w' => w'.cell? ⟨w.heap.size, 0, none⟩ = some (.int .i64 an) ∧ w'.cell? ⟨w.heap.size, 1, none⟩ = some (.int .i64 ad) ∧ w'.cell? ⟨w.heap.size + 1, 0, none⟩ = some (.int .i64 bn) ∧ w'.cell? ⟨w.heap.size + 1, 1, none⟩ = some (.int .i64 bd))
    (first | exact ⟨by assumption, by assumption, by assumption, by assumption⟩ | go_keep)
    (first
      | (go_at_call_of 39 an; refine (HSa.out _).mono ?_; rintro e' w' ⟨rfl, rfl⟩)
      | (go_at_call 39; refine (HSb.out _).mono ?_; rintro e' w' ⟨rfl, rfl⟩)
      | (go_at_call_of 49 sa; refine (HMx.out _).mono ?_; rintro e' w' ⟨rfl, hb⟩; have v0 := kc ⟨w.heap.size, 0, none⟩ (.int .i64 an) hb (by first | assumption | simp [go_sem, *]); have v1 := kc ⟨w.heap.size, 1, none⟩ (.int .i64 ad) hb (by first | assumption | simp [go_sem, *]); have v2 := kc ⟨w.heap.size + 1, 0, none⟩ (.int .i64 bn) hb (by first | assumption | simp [go_sem, *]); have v3 := kc ⟨w.heap.size + 1, 1, none⟩ (.int .i64 bd) hb (by first | assumption | simp [go_sem, *]); have v4 := kc ⟨w.heap.size + 1 + 1, 0, none⟩ (.int .i64 0) hb (by first | assumption | simp [go_sem, *]); have v5 := kc ⟨w.heap.size + 1 + 1, 1, none⟩ (.int .i64 0) hb (by first | assumption | simp [go_sem, *]); have vf0 := kf ⟨w.heap.size + 1 + 1, 0, none⟩ (.int .i64 0) hb (by first | assumption | simp [go_sem, *]) (by first | assumption | simp [go_sem, *]); have vf1 := kf ⟨w.heap.size + 1 + 1, 1, none⟩ (.int .i64 0) hb (by first | assumption | simp [go_sem, *]) (by first | assumption | simp [go_sem, *]); have hX := beyond (w := w) (by first | assumption | exact Below.drew hB2 | exact below_drewN hB2 _) hb)
      | (go_at_call 49; refine (HMd.out _).mono ?_; rintro e' w' ⟨rfl, hb⟩; have v0 := kc ⟨w.heap.size, 0, none⟩ (.int .i64 an) hb (by first | assumption | simp [go_sem, *]); have v1 := kc ⟨w.heap.size, 1, none⟩ (.int .i64 ad) hb (by first | assumption | simp [go_sem, *]); have v2 := kc ⟨w.heap.size + 1, 0, none⟩ (.int .i64 bn) hb (by first | assumption | simp [go_sem, *]); have v3 := kc ⟨w.heap.size + 1, 1, none⟩ (.int .i64 bd) hb (by first | assumption | simp [go_sem, *]); have v4 := kc ⟨w.heap.size + 1 + 1, 0, none⟩ (.int .i64 0) hb (by first | assumption | simp [go_sem, *]); have v5 := kc ⟨w.heap.size + 1 + 1, 1, none⟩ (.int .i64 0) hb (by first | assumption | simp [go_sem, *]); have vf0 := kf ⟨w.heap.size + 1 + 1, 0, none⟩ (.int .i64 0) hb (by first | assumption | simp [go_sem, *]) (by first | assumption | simp [go_sem, *]); have vf1 := kf ⟨w.heap.size + 1 + 1, 1, none⟩ (.int .i64 0) hb (by first | assumption | simp [go_sem, *]) (by first | assumption | simp [go_sem, *]); have hX := beyond (w := w) (by first | assumption | exact Below.drew hB2 | exact below_drewN hB2 _) hb)
      | (go_at_call 38; refine (HH.out _).mono ?_; rintro e' w' ⟨rfl, hb⟩; have v0 := kc ⟨w.heap.size, 0, none⟩ (.int .i64 an) hb (by first | assumption | simp [go_sem, *]); have v1 := kc ⟨w.heap.size, 1, none⟩ (.int .i64 ad) hb (by first | assumption | simp [go_sem, *]); have v2 := kc ⟨w.heap.size + 1, 0, none⟩ (.int .i64 bn) hb (by first | assumption | simp [go_sem, *]); have v3 := kc ⟨w.heap.size + 1, 1, none⟩ (.int .i64 bd) hb (by first | assumption | simp [go_sem, *]); have v4 := kc ⟨w.heap.size + 1 + 1, 0, none⟩ (.int .i64 0) hb (by first | assumption | simp [go_sem, *]); have v5 := kc ⟨w.heap.size + 1 + 1, 1, none⟩ (.int .i64 0) hb (by first | assumption | simp [go_sem, *]); have vf0 := kf ⟨w.heap.size + 1 + 1, 0, none⟩ (.int .i64 0) hb (by first | assumption | simp [go_sem, *]) (by first | assumption | simp [go_sem, *]); have vf1 := kf ⟨w.heap.size + 1 + 1, 1, none⟩ (.int .i64 0) hb (by first | assumption | simp [go_sem, *]) (by first | assumption | simp [go_sem, *]); have hX := beyond (w := w) (by first | assumption | exact Below.drew hB2 | exact below_drewN hB2 _) hb))
  all_goals
    go_wp2
    refine bodyPost_ret (v := trip (tn, td, te)) (by simp [results, Tryd.results21, go_sem, *]) rfl ⟨rfl, ?_⟩
    first | exact set2 (by assumption) (by omega) _ _ | assumption
end Go.Proofs.YtnhopmoboahlgaaDoor
