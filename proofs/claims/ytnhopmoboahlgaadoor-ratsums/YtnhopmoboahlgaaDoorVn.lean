/-
  The walk of the statement RatSums.
-/
import Derived.Test.YtnhopmoboahlgaaDoorXl
import Derived.Test.YtnhopmoboahlgaaDoorVl
namespace Go.Proofs.YtnhopmoboahlgaaDoor
open Go.RowKit Go.Shelf
set_option linter.unusedVariables false
abbrev Calls2 (f : FuncId) (an ad bn bd : Int) (t : Int × Int × Int) : Prop := ∀ w, Calls Tryd.prog f #[rv an ad, rv bn bd] w fun e w' => e = .returned (trip t) ∧ Below w.heap.size w w'
abbrev CallsC (f : FuncId) (an ad bn bd c : Int) : Prop := ∀ w, Calls Tryd.prog f #[rv an ad, rv bn bd] w fun e w' => e = .returned (.int .i64 c) ∧ Below w.heap.size w w'
set_option maxRecDepth 100000 in
set_option maxHeartbeats 4000000 in
theorem sums_raw (an ad bn bd x0 y0 e0 x1 y1 e1 x2 y2 e2 x3 y3 e3 c : Int) (w : World) (ht : Pow w) (H0 : Hid (Calls2 14 an ad bn bd (x0, y0, e0))) (G0 : Hid (Calls2 15 an ad bn bd (x0, y0, e0))) (H1 : Hid (Calls2 16 an ad bn bd (x1, y1, e1))) (G1 : Hid (Calls2 17 an ad bn bd (x1, y1, e1))) (H2 : Hid (Calls2 18 an ad bn bd (x2, y2, e2))) (G2 : Hid (Calls2 19 an ad bn bd (x2, y2, e2))) (H3 : Hid (Calls2 20 an ad bn bd (x3, y3, e3))) (G3 : Hid (Calls2 21 an ad bn bd (x3, y3, e3)))
    (HC : Hid (CallsC 22 an ad bn bd c)) (GC : Hid (CallsC 23 an ad bn bd c)) :
    Calls Tryd.prog 4 #[rv an ad, rv bn bd] w fun e w' => e = .returned (.bool true) ∧ Below w.heap.size w w' := by
  go_enter Tryd.func4, Tryd.ntmps4
  go_wp2_with fail
  refine (live_any _ (pow_later ht (two w _ _))).mono ?_
  rintro e w1 ⟨rfl, hb⟩
  have a0 := kc ⟨w.heap.size, 0, none⟩ (.int .i64 an) hb (by first | assumption | simp [go_sem, *])
  have a1 := kc ⟨w.heap.size, 1, none⟩ (.int .i64 ad) hb (by first | assumption | simp [go_sem, *])
  have a2 := kc ⟨w.heap.size + 1, 0, none⟩ (.int .i64 bn) hb (by first | assumption | simp [go_sem, *])
  have a3 := kc ⟨w.heap.size + 1, 1, none⟩ (.int .i64 bd) hb (by first | assumption | simp [go_sem, *])
  have hB : Below w.heap.size w w1 := beyond (two w _ _) hb
  clear hb
  go_wp2_with fail
  refine (H0.out _).mono ?_
  rintro e w2 ⟨rfl, hb⟩
  have a0_ := kc _ _ hb a0
  have a1_ := kc _ _ hb a1
  have a2_ := kc _ _ hb a2
  have a3_ := kc _ _ hb a3
  have hB_ := beyond hB hb
  clear hb hB a0 a1 a2 a3 
  go_upto_region 4 with (fail)
  have a0 : (w2.alloc (.cells #[.int .i64 x0, .int .i64 y0] 23)).cell? ⟨w.heap.size, 0, none⟩ = some (.int .i64 an) := kc _ _ (single _ _) a0_
  have a1 : (w2.alloc (.cells #[.int .i64 x0, .int .i64 y0] 23)).cell? ⟨w.heap.size, 1, none⟩ = some (.int .i64 ad) := kc _ _ (single _ _) a1_
  have a2 : (w2.alloc (.cells #[.int .i64 x0, .int .i64 y0] 23)).cell? ⟨w.heap.size + 1, 0, none⟩ = some (.int .i64 bn) := kc _ _ (single _ _) a2_
  have a3 : (w2.alloc (.cells #[.int .i64 x0, .int .i64 y0] 23)).cell? ⟨w.heap.size + 1, 1, none⟩ = some (.int .i64 bd) := kc _ _ (single _ _) a3_
  have s0 : (w2.alloc (.cells #[.int .i64 x0, .int .i64 y0] 23)).cell? ⟨w2.heap.size, 0, none⟩ = some (.int .i64 x0) := new_cell w2 _ _ 0
  have s1 : (w2.alloc (.cells #[.int .i64 x0, .int .i64 y0] 23)).cell? ⟨w2.heap.size, 1, none⟩ = some (.int .i64 y0) := new_cell w2 _ _ 1
  have sf0 : (w2.alloc (.cells #[.int .i64 x0, .int .i64 y0] 23)).frozen? ⟨w2.heap.size, 0, none⟩ = false := new_frozen w2 _ _ 0
  have sf1 : (w2.alloc (.cells #[.int .i64 x0, .int .i64 y0] 23)).frozen? ⟨w2.heap.size, 1, none⟩ = false := new_frozen w2 _ _ 1
  have hB : Below w.heap.size w (w2.alloc (.cells #[.int .i64 x0, .int .i64 y0] 23)) := beyond hB_ (single _ _)
  have q_bs : w.heap.size + 1 < w2.heap.size := World.block_lt_of_cell? _ _ a2_
  clear hB_ a0_ a1_ a2_ a3_
  generalize (w2.alloc (.cells #[.int .i64 x0, .int .i64 y0] 23)) = V2 at *
  generalize w2.heap.size = bs at *
  have ns0 : ¬ bs = w.heap.size := by omega
  have nr0 : ¬ w.heap.size = bs := by omega
  have ns1 : ¬ bs = w.heap.size + 1 := by omega
  have nr1 : ¬ w.heap.size + 1 = bs := by omega
  go_wp2_with fail
  refine (G0.out _).mono ?_
  rintro e w3 ⟨rfl, hb⟩
  have a0_ := kc _ _ hb a0
  have a1_ := kc _ _ hb a1
  have a2_ := kc _ _ hb a2
  have a3_ := kc _ _ hb a3
  have s0_ := kc _ _ hb s0
  have s1_ := kc _ _ hb s1
  have sf0_ := kf _ _ hb s0 sf0
  have sf1_ := kf _ _ hb s1 sf1
  have hB_ := beyond hB hb
  clear hb hB a0 a1 a2 a3 s0 s1 sf0 sf1
  go_upto_region 5 with (fail)
  have a0 : (w3.alloc (.cells #[.int .i64 x0, .int .i64 y0] 23)).cell? ⟨w.heap.size, 0, none⟩ = some (.int .i64 an) := kc _ _ (single _ _) a0_
  have a1 : (w3.alloc (.cells #[.int .i64 x0, .int .i64 y0] 23)).cell? ⟨w.heap.size, 1, none⟩ = some (.int .i64 ad) := kc _ _ (single _ _) a1_
  have a2 : (w3.alloc (.cells #[.int .i64 x0, .int .i64 y0] 23)).cell? ⟨w.heap.size + 1, 0, none⟩ = some (.int .i64 bn) := kc _ _ (single _ _) a2_
  have a3 : (w3.alloc (.cells #[.int .i64 x0, .int .i64 y0] 23)).cell? ⟨w.heap.size + 1, 1, none⟩ = some (.int .i64 bd) := kc _ _ (single _ _) a3_
  have s0 : (w3.alloc (.cells #[.int .i64 x0, .int .i64 y0] 23)).cell? ⟨bs, 0, none⟩ = some (.int .i64 x0) := kc _ _ (single _ _) s0_
  have s1 : (w3.alloc (.cells #[.int .i64 x0, .int .i64 y0] 23)).cell? ⟨bs, 1, none⟩ = some (.int .i64 y0) := kc _ _ (single _ _) s1_
  have sf0 : (w3.alloc (.cells #[.int .i64 x0, .int .i64 y0] 23)).frozen? ⟨bs, 0, none⟩ = false := kf _ _ (single _ _) s0_ sf0_
  have sf1 : (w3.alloc (.cells #[.int .i64 x0, .int .i64 y0] 23)).frozen? ⟨bs, 1, none⟩ = false := kf _ _ (single _ _) s1_ sf1_
  have t0 : (w3.alloc (.cells #[.int .i64 x0, .int .i64 y0] 23)).cell? ⟨w3.heap.size, 0, none⟩ = some (.int .i64 x0) := new_cell w3 _ _ 0
  have t1 : (w3.alloc (.cells #[.int .i64 x0, .int .i64 y0] 23)).cell? ⟨w3.heap.size, 1, none⟩ = some (.int .i64 y0) := new_cell w3 _ _ 1
  have tf0 : (w3.alloc (.cells #[.int .i64 x0, .int .i64 y0] 23)).frozen? ⟨w3.heap.size, 0, none⟩ = false := new_frozen w3 _ _ 0
  have tf1 : (w3.alloc (.cells #[.int .i64 x0, .int .i64 y0] 23)).frozen? ⟨w3.heap.size, 1, none⟩ = false := new_frozen w3 _ _ 1
  have hB : Below w.heap.size w (w3.alloc (.cells #[.int .i64 x0, .int .i64 y0] 23)) := beyond hB_ (single _ _)
  have q_bt : w.heap.size + 1 < w3.heap.size := World.block_lt_of_cell? _ _ a2_
  have q_st : bs < w3.heap.size := World.block_lt_of_cell? _ _ s0_
  clear hB_ a0_ a1_ a2_ a3_ s0_ s1_ sf0_ sf1_
  generalize (w3.alloc (.cells #[.int .i64 x0, .int .i64 y0] 23)) = V3 at *
  generalize w3.heap.size = bt at *
  have nt0 : ¬ bt = w.heap.size := by omega
  have nu0 : ¬ w.heap.size = bt := by omega
  have nt1 : ¬ bt = w.heap.size + 1 := by omega
  have nu1 : ¬ w.heap.size + 1 = bt := by omega
  have nt2 : ¬ bt = bs := by omega
  have nu2 : ¬ bs = bt := by omega
  go_wp2_with fail
  refine (H1.out _).mono ?_
  rintro e w4 ⟨rfl, hb⟩
  have a0_ := kc _ _ hb a0
  have a1_ := kc _ _ hb a1
  have a2_ := kc _ _ hb a2
  have a3_ := kc _ _ hb a3
  have s0_ := kc _ _ hb s0
  have s1_ := kc _ _ hb s1
  have t0_ := kc _ _ hb t0
  have t1_ := kc _ _ hb t1
  have sf0_ := kf _ _ hb s0 sf0
  have sf1_ := kf _ _ hb s1 sf1
  have tf0_ := kf _ _ hb t0 tf0
  have tf1_ := kf _ _ hb t1 tf1
  have hB_ := beyond hB hb
  clear hb hB a0 a1 a2 a3 s0 s1 t0 t1 sf0 sf1 tf0 tf1
  go_upto_region 8 with (fail)
  have a0 : ((w4.setCell ⟨bs, 0, none⟩ (.int .i64 x1)).setCell ⟨bs, 1, none⟩ (.int .i64 y1)).cell? ⟨w.heap.size, 0, none⟩ = some (.int .i64 an) := set_other a0_ ns0
  have a1 : ((w4.setCell ⟨bs, 0, none⟩ (.int .i64 x1)).setCell ⟨bs, 1, none⟩ (.int .i64 y1)).cell? ⟨w.heap.size, 1, none⟩ = some (.int .i64 ad) := set_other a1_ ns0
  have a2 : ((w4.setCell ⟨bs, 0, none⟩ (.int .i64 x1)).setCell ⟨bs, 1, none⟩ (.int .i64 y1)).cell? ⟨w.heap.size + 1, 0, none⟩ = some (.int .i64 bn) := set_other a2_ ns1
  have a3 : ((w4.setCell ⟨bs, 0, none⟩ (.int .i64 x1)).setCell ⟨bs, 1, none⟩ (.int .i64 y1)).cell? ⟨w.heap.size + 1, 1, none⟩ = some (.int .i64 bd) := set_other a3_ ns1
  have s0 : ((w4.setCell ⟨bs, 0, none⟩ (.int .i64 x1)).setCell ⟨bs, 1, none⟩ (.int .i64 y1)).cell? ⟨bs, 0, none⟩ = some (.int .i64 x1) := by simp [go_sem, *]
  have s1 : ((w4.setCell ⟨bs, 0, none⟩ (.int .i64 x1)).setCell ⟨bs, 1, none⟩ (.int .i64 y1)).cell? ⟨bs, 1, none⟩ = some (.int .i64 y1) := by simp [go_sem, *]
  have t0 : ((w4.setCell ⟨bs, 0, none⟩ (.int .i64 x1)).setCell ⟨bs, 1, none⟩ (.int .i64 y1)).cell? ⟨bt, 0, none⟩ = some (.int .i64 x0) := set_other t0_ nu2
  have t1 : ((w4.setCell ⟨bs, 0, none⟩ (.int .i64 x1)).setCell ⟨bs, 1, none⟩ (.int .i64 y1)).cell? ⟨bt, 1, none⟩ = some (.int .i64 y0) := set_other t1_ nu2
  have sf0 : ((w4.setCell ⟨bs, 0, none⟩ (.int .i64 x1)).setCell ⟨bs, 1, none⟩ (.int .i64 y1)).frozen? ⟨bs, 0, none⟩ = false := set_fz sf0_
  have sf1 : ((w4.setCell ⟨bs, 0, none⟩ (.int .i64 x1)).setCell ⟨bs, 1, none⟩ (.int .i64 y1)).frozen? ⟨bs, 1, none⟩ = false := set_fz sf1_
  have tf0 : ((w4.setCell ⟨bs, 0, none⟩ (.int .i64 x1)).setCell ⟨bs, 1, none⟩ (.int .i64 y1)).frozen? ⟨bt, 0, none⟩ = false := set_fz tf0_
  have tf1 : ((w4.setCell ⟨bs, 0, none⟩ (.int .i64 x1)).setCell ⟨bs, 1, none⟩ (.int .i64 y1)).frozen? ⟨bt, 1, none⟩ = false := set_fz tf1_
  have hB : Below w.heap.size w ((w4.setCell ⟨bs, 0, none⟩ (.int .i64 x1)).setCell ⟨bs, 1, none⟩ (.int .i64 y1)) := set2 hB_ (by omega) _ _
  clear hB_ a0_ a1_ a2_ a3_ s0_ s1_ t0_ t1_ sf0_ sf1_ tf0_ tf1_
  generalize ((w4.setCell ⟨bs, 0, none⟩ (.int .i64 x1)).setCell ⟨bs, 1, none⟩ (.int .i64 y1)) = V4 at *
  go_wp2_with fail
  refine (G1.out _).mono ?_
  rintro e w5 ⟨rfl, hb⟩
  have a0_ := kc _ _ hb a0
  have a1_ := kc _ _ hb a1
  have a2_ := kc _ _ hb a2
  have a3_ := kc _ _ hb a3
  have s0_ := kc _ _ hb s0
  have s1_ := kc _ _ hb s1
  have t0_ := kc _ _ hb t0
  have t1_ := kc _ _ hb t1
  have sf0_ := kf _ _ hb s0 sf0
  have sf1_ := kf _ _ hb s1 sf1
  have tf0_ := kf _ _ hb t0 tf0
  have tf1_ := kf _ _ hb t1 tf1
  have hB_ := beyond hB hb
  clear hb hB a0 a1 a2 a3 s0 s1 t0 t1 sf0 sf1 tf0 tf1
  go_upto_region 9 with (fail)
  have a0 : ((w5.setCell ⟨bt, 0, none⟩ (.int .i64 x1)).setCell ⟨bt, 1, none⟩ (.int .i64 y1)).cell? ⟨w.heap.size, 0, none⟩ = some (.int .i64 an) := set_other a0_ nt0
  have a1 : ((w5.setCell ⟨bt, 0, none⟩ (.int .i64 x1)).setCell ⟨bt, 1, none⟩ (.int .i64 y1)).cell? ⟨w.heap.size, 1, none⟩ = some (.int .i64 ad) := set_other a1_ nt0
  have a2 : ((w5.setCell ⟨bt, 0, none⟩ (.int .i64 x1)).setCell ⟨bt, 1, none⟩ (.int .i64 y1)).cell? ⟨w.heap.size + 1, 0, none⟩ = some (.int .i64 bn) := set_other a2_ nt1
  have a3 : ((w5.setCell ⟨bt, 0, none⟩ (.int .i64 x1)).setCell ⟨bt, 1, none⟩ (.int .i64 y1)).cell? ⟨w.heap.size + 1, 1, none⟩ = some (.int .i64 bd) := set_other a3_ nt1
  have s0 : ((w5.setCell ⟨bt, 0, none⟩ (.int .i64 x1)).setCell ⟨bt, 1, none⟩ (.int .i64 y1)).cell? ⟨bs, 0, none⟩ = some (.int .i64 x1) := set_other s0_ nt2
  have s1 : ((w5.setCell ⟨bt, 0, none⟩ (.int .i64 x1)).setCell ⟨bt, 1, none⟩ (.int .i64 y1)).cell? ⟨bs, 1, none⟩ = some (.int .i64 y1) := set_other s1_ nt2
  have t0 : ((w5.setCell ⟨bt, 0, none⟩ (.int .i64 x1)).setCell ⟨bt, 1, none⟩ (.int .i64 y1)).cell? ⟨bt, 0, none⟩ = some (.int .i64 x1) := by simp [go_sem, *]
  have t1 : ((w5.setCell ⟨bt, 0, none⟩ (.int .i64 x1)).setCell ⟨bt, 1, none⟩ (.int .i64 y1)).cell? ⟨bt, 1, none⟩ = some (.int .i64 y1) := by simp [go_sem, *]
  have sf0 : ((w5.setCell ⟨bt, 0, none⟩ (.int .i64 x1)).setCell ⟨bt, 1, none⟩ (.int .i64 y1)).frozen? ⟨bs, 0, none⟩ = false := set_fz sf0_
  have sf1 : ((w5.setCell ⟨bt, 0, none⟩ (.int .i64 x1)).setCell ⟨bt, 1, none⟩ (.int .i64 y1)).frozen? ⟨bs, 1, none⟩ = false := set_fz sf1_
  have tf0 : ((w5.setCell ⟨bt, 0, none⟩ (.int .i64 x1)).setCell ⟨bt, 1, none⟩ (.int .i64 y1)).frozen? ⟨bt, 0, none⟩ = false := set_fz tf0_
  have tf1 : ((w5.setCell ⟨bt, 0, none⟩ (.int .i64 x1)).setCell ⟨bt, 1, none⟩ (.int .i64 y1)).frozen? ⟨bt, 1, none⟩ = false := set_fz tf1_
  have hB : Below w.heap.size w ((w5.setCell ⟨bt, 0, none⟩ (.int .i64 x1)).setCell ⟨bt, 1, none⟩ (.int .i64 y1)) := set2 hB_ (by omega) _ _
  clear hB_ a0_ a1_ a2_ a3_ s0_ s1_ t0_ t1_ sf0_ sf1_ tf0_ tf1_
  generalize ((w5.setCell ⟨bt, 0, none⟩ (.int .i64 x1)).setCell ⟨bt, 1, none⟩ (.int .i64 y1)) = V5 at *
  go_wp2_with fail
  refine (H2.out _).mono ?_
  rintro e w6 ⟨rfl, hb⟩
  have a0_ := kc _ _ hb a0
  have a1_ := kc _ _ hb a1
  have a2_ := kc _ _ hb a2
  have a3_ := kc _ _ hb a3
  have s0_ := kc _ _ hb s0
  have s1_ := kc _ _ hb s1
  have t0_ := kc _ _ hb t0
  have t1_ := kc _ _ hb t1
  have sf0_ := kf _ _ hb s0 sf0
  have sf1_ := kf _ _ hb s1 sf1
  have tf0_ := kf _ _ hb t0 tf0
  have tf1_ := kf _ _ hb t1 tf1
  have hB_ := beyond hB hb
  clear hb hB a0 a1 a2 a3 s0 s1 t0 t1 sf0 sf1 tf0 tf1
  go_upto_region 12 with (fail)
  have a0 : ((w6.setCell ⟨bs, 0, none⟩ (.int .i64 x2)).setCell ⟨bs, 1, none⟩ (.int .i64 y2)).cell? ⟨w.heap.size, 0, none⟩ = some (.int .i64 an) := set_other a0_ ns0
  have a1 : ((w6.setCell ⟨bs, 0, none⟩ (.int .i64 x2)).setCell ⟨bs, 1, none⟩ (.int .i64 y2)).cell? ⟨w.heap.size, 1, none⟩ = some (.int .i64 ad) := set_other a1_ ns0
  have a2 : ((w6.setCell ⟨bs, 0, none⟩ (.int .i64 x2)).setCell ⟨bs, 1, none⟩ (.int .i64 y2)).cell? ⟨w.heap.size + 1, 0, none⟩ = some (.int .i64 bn) := set_other a2_ ns1
  have a3 : ((w6.setCell ⟨bs, 0, none⟩ (.int .i64 x2)).setCell ⟨bs, 1, none⟩ (.int .i64 y2)).cell? ⟨w.heap.size + 1, 1, none⟩ = some (.int .i64 bd) := set_other a3_ ns1
  have s0 : ((w6.setCell ⟨bs, 0, none⟩ (.int .i64 x2)).setCell ⟨bs, 1, none⟩ (.int .i64 y2)).cell? ⟨bs, 0, none⟩ = some (.int .i64 x2) := by simp [go_sem, *]
  have s1 : ((w6.setCell ⟨bs, 0, none⟩ (.int .i64 x2)).setCell ⟨bs, 1, none⟩ (.int .i64 y2)).cell? ⟨bs, 1, none⟩ = some (.int .i64 y2) := by simp [go_sem, *]
  have t0 : ((w6.setCell ⟨bs, 0, none⟩ (.int .i64 x2)).setCell ⟨bs, 1, none⟩ (.int .i64 y2)).cell? ⟨bt, 0, none⟩ = some (.int .i64 x1) := set_other t0_ nu2
  have t1 : ((w6.setCell ⟨bs, 0, none⟩ (.int .i64 x2)).setCell ⟨bs, 1, none⟩ (.int .i64 y2)).cell? ⟨bt, 1, none⟩ = some (.int .i64 y1) := set_other t1_ nu2
  have sf0 : ((w6.setCell ⟨bs, 0, none⟩ (.int .i64 x2)).setCell ⟨bs, 1, none⟩ (.int .i64 y2)).frozen? ⟨bs, 0, none⟩ = false := set_fz sf0_
  have sf1 : ((w6.setCell ⟨bs, 0, none⟩ (.int .i64 x2)).setCell ⟨bs, 1, none⟩ (.int .i64 y2)).frozen? ⟨bs, 1, none⟩ = false := set_fz sf1_
  have tf0 : ((w6.setCell ⟨bs, 0, none⟩ (.int .i64 x2)).setCell ⟨bs, 1, none⟩ (.int .i64 y2)).frozen? ⟨bt, 0, none⟩ = false := set_fz tf0_
  have tf1 : ((w6.setCell ⟨bs, 0, none⟩ (.int .i64 x2)).setCell ⟨bs, 1, none⟩ (.int .i64 y2)).frozen? ⟨bt, 1, none⟩ = false := set_fz tf1_
  have hB : Below w.heap.size w ((w6.setCell ⟨bs, 0, none⟩ (.int .i64 x2)).setCell ⟨bs, 1, none⟩ (.int .i64 y2)) := set2 hB_ (by omega) _ _
  clear hB_ a0_ a1_ a2_ a3_ s0_ s1_ t0_ t1_ sf0_ sf1_ tf0_ tf1_
  generalize ((w6.setCell ⟨bs, 0, none⟩ (.int .i64 x2)).setCell ⟨bs, 1, none⟩ (.int .i64 y2)) = V6 at *
  go_wp2_with fail
  refine (G2.out _).mono ?_
  rintro e w7 ⟨rfl, hb⟩
  have a0_ := kc _ _ hb a0
  have a1_ := kc _ _ hb a1
  have a2_ := kc _ _ hb a2
  have a3_ := kc _ _ hb a3
  have s0_ := kc _ _ hb s0
  have s1_ := kc _ _ hb s1
  have t0_ := kc _ _ hb t0
  have t1_ := kc _ _ hb t1
  have sf0_ := kf _ _ hb s0 sf0
  have sf1_ := kf _ _ hb s1 sf1
  have tf0_ := kf _ _ hb t0 tf0
  have tf1_ := kf _ _ hb t1 tf1
  have hB_ := beyond hB hb
  clear hb hB a0 a1 a2 a3 s0 s1 t0 t1 sf0 sf1 tf0 tf1
  go_upto_region 13 with (fail)
  have a0 : ((w7.setCell ⟨bt, 0, none⟩ (.int .i64 x2)).setCell ⟨bt, 1, none⟩ (.int .i64 y2)).cell? ⟨w.heap.size, 0, none⟩ = some (.int .i64 an) := set_other a0_ nt0
  have a1 : ((w7.setCell ⟨bt, 0, none⟩ (.int .i64 x2)).setCell ⟨bt, 1, none⟩ (.int .i64 y2)).cell? ⟨w.heap.size, 1, none⟩ = some (.int .i64 ad) := set_other a1_ nt0
  have a2 : ((w7.setCell ⟨bt, 0, none⟩ (.int .i64 x2)).setCell ⟨bt, 1, none⟩ (.int .i64 y2)).cell? ⟨w.heap.size + 1, 0, none⟩ = some (.int .i64 bn) := set_other a2_ nt1
  have a3 : ((w7.setCell ⟨bt, 0, none⟩ (.int .i64 x2)).setCell ⟨bt, 1, none⟩ (.int .i64 y2)).cell? ⟨w.heap.size + 1, 1, none⟩ = some (.int .i64 bd) := set_other a3_ nt1
  have s0 : ((w7.setCell ⟨bt, 0, none⟩ (.int .i64 x2)).setCell ⟨bt, 1, none⟩ (.int .i64 y2)).cell? ⟨bs, 0, none⟩ = some (.int .i64 x2) := set_other s0_ nt2
  have s1 : ((w7.setCell ⟨bt, 0, none⟩ (.int .i64 x2)).setCell ⟨bt, 1, none⟩ (.int .i64 y2)).cell? ⟨bs, 1, none⟩ = some (.int .i64 y2) := set_other s1_ nt2
  have t0 : ((w7.setCell ⟨bt, 0, none⟩ (.int .i64 x2)).setCell ⟨bt, 1, none⟩ (.int .i64 y2)).cell? ⟨bt, 0, none⟩ = some (.int .i64 x2) := by simp [go_sem, *]
  have t1 : ((w7.setCell ⟨bt, 0, none⟩ (.int .i64 x2)).setCell ⟨bt, 1, none⟩ (.int .i64 y2)).cell? ⟨bt, 1, none⟩ = some (.int .i64 y2) := by simp [go_sem, *]
  have sf0 : ((w7.setCell ⟨bt, 0, none⟩ (.int .i64 x2)).setCell ⟨bt, 1, none⟩ (.int .i64 y2)).frozen? ⟨bs, 0, none⟩ = false := set_fz sf0_
  have sf1 : ((w7.setCell ⟨bt, 0, none⟩ (.int .i64 x2)).setCell ⟨bt, 1, none⟩ (.int .i64 y2)).frozen? ⟨bs, 1, none⟩ = false := set_fz sf1_
  have tf0 : ((w7.setCell ⟨bt, 0, none⟩ (.int .i64 x2)).setCell ⟨bt, 1, none⟩ (.int .i64 y2)).frozen? ⟨bt, 0, none⟩ = false := set_fz tf0_
  have tf1 : ((w7.setCell ⟨bt, 0, none⟩ (.int .i64 x2)).setCell ⟨bt, 1, none⟩ (.int .i64 y2)).frozen? ⟨bt, 1, none⟩ = false := set_fz tf1_
  have hB : Below w.heap.size w ((w7.setCell ⟨bt, 0, none⟩ (.int .i64 x2)).setCell ⟨bt, 1, none⟩ (.int .i64 y2)) := set2 hB_ (by omega) _ _
  clear hB_ a0_ a1_ a2_ a3_ s0_ s1_ t0_ t1_ sf0_ sf1_ tf0_ tf1_
  generalize ((w7.setCell ⟨bt, 0, none⟩ (.int .i64 x2)).setCell ⟨bt, 1, none⟩ (.int .i64 y2)) = V7 at *
  go_wp2_with fail
  refine (H3.out _).mono ?_
  rintro e w8 ⟨rfl, hb⟩
  have a0_ := kc _ _ hb a0
  have a1_ := kc _ _ hb a1
  have a2_ := kc _ _ hb a2
  have a3_ := kc _ _ hb a3
  have s0_ := kc _ _ hb s0
  have s1_ := kc _ _ hb s1
  have t0_ := kc _ _ hb t0
  have t1_ := kc _ _ hb t1
  have sf0_ := kf _ _ hb s0 sf0
  have sf1_ := kf _ _ hb s1 sf1
  have tf0_ := kf _ _ hb t0 tf0
  have tf1_ := kf _ _ hb t1 tf1
  have hB_ := beyond hB hb
  clear hb hB a0 a1 a2 a3 s0 s1 t0 t1 sf0 sf1 tf0 tf1
  go_upto_region 16 with (fail)
  have a0 : ((w8.setCell ⟨bs, 0, none⟩ (.int .i64 x3)).setCell ⟨bs, 1, none⟩ (.int .i64 y3)).cell? ⟨w.heap.size, 0, none⟩ = some (.int .i64 an) := set_other a0_ ns0
  have a1 : ((w8.setCell ⟨bs, 0, none⟩ (.int .i64 x3)).setCell ⟨bs, 1, none⟩ (.int .i64 y3)).cell? ⟨w.heap.size, 1, none⟩ = some (.int .i64 ad) := set_other a1_ ns0
  have a2 : ((w8.setCell ⟨bs, 0, none⟩ (.int .i64 x3)).setCell ⟨bs, 1, none⟩ (.int .i64 y3)).cell? ⟨w.heap.size + 1, 0, none⟩ = some (.int .i64 bn) := set_other a2_ ns1
  have a3 : ((w8.setCell ⟨bs, 0, none⟩ (.int .i64 x3)).setCell ⟨bs, 1, none⟩ (.int .i64 y3)).cell? ⟨w.heap.size + 1, 1, none⟩ = some (.int .i64 bd) := set_other a3_ ns1
  have s0 : ((w8.setCell ⟨bs, 0, none⟩ (.int .i64 x3)).setCell ⟨bs, 1, none⟩ (.int .i64 y3)).cell? ⟨bs, 0, none⟩ = some (.int .i64 x3) := by simp [go_sem, *]
  have s1 : ((w8.setCell ⟨bs, 0, none⟩ (.int .i64 x3)).setCell ⟨bs, 1, none⟩ (.int .i64 y3)).cell? ⟨bs, 1, none⟩ = some (.int .i64 y3) := by simp [go_sem, *]
  have t0 : ((w8.setCell ⟨bs, 0, none⟩ (.int .i64 x3)).setCell ⟨bs, 1, none⟩ (.int .i64 y3)).cell? ⟨bt, 0, none⟩ = some (.int .i64 x2) := set_other t0_ nu2
  have t1 : ((w8.setCell ⟨bs, 0, none⟩ (.int .i64 x3)).setCell ⟨bs, 1, none⟩ (.int .i64 y3)).cell? ⟨bt, 1, none⟩ = some (.int .i64 y2) := set_other t1_ nu2
  have sf0 : ((w8.setCell ⟨bs, 0, none⟩ (.int .i64 x3)).setCell ⟨bs, 1, none⟩ (.int .i64 y3)).frozen? ⟨bs, 0, none⟩ = false := set_fz sf0_
  have sf1 : ((w8.setCell ⟨bs, 0, none⟩ (.int .i64 x3)).setCell ⟨bs, 1, none⟩ (.int .i64 y3)).frozen? ⟨bs, 1, none⟩ = false := set_fz sf1_
  have tf0 : ((w8.setCell ⟨bs, 0, none⟩ (.int .i64 x3)).setCell ⟨bs, 1, none⟩ (.int .i64 y3)).frozen? ⟨bt, 0, none⟩ = false := set_fz tf0_
  have tf1 : ((w8.setCell ⟨bs, 0, none⟩ (.int .i64 x3)).setCell ⟨bs, 1, none⟩ (.int .i64 y3)).frozen? ⟨bt, 1, none⟩ = false := set_fz tf1_
  have hB : Below w.heap.size w ((w8.setCell ⟨bs, 0, none⟩ (.int .i64 x3)).setCell ⟨bs, 1, none⟩ (.int .i64 y3)) := set2 hB_ (by omega) _ _
  clear hB_ a0_ a1_ a2_ a3_ s0_ s1_ t0_ t1_ sf0_ sf1_ tf0_ tf1_
  generalize ((w8.setCell ⟨bs, 0, none⟩ (.int .i64 x3)).setCell ⟨bs, 1, none⟩ (.int .i64 y3)) = V8 at *
  go_wp2_with fail
  refine (G3.out _).mono ?_
  rintro e w9 ⟨rfl, hb⟩
  have a0_ := kc _ _ hb a0
  have a1_ := kc _ _ hb a1
  have a2_ := kc _ _ hb a2
  have a3_ := kc _ _ hb a3
  have s0_ := kc _ _ hb s0
  have s1_ := kc _ _ hb s1
  have t0_ := kc _ _ hb t0
  have t1_ := kc _ _ hb t1
  have sf0_ := kf _ _ hb s0 sf0
  have sf1_ := kf _ _ hb s1 sf1
  have tf0_ := kf _ _ hb t0 tf0
  have tf1_ := kf _ _ hb t1 tf1
  have hB_ := beyond hB hb
  clear hb hB a0 a1 a2 a3 s0 s1 t0 t1 sf0 sf1 tf0 tf1
  go_upto_region 17 with (fail)
  have a0 : ((w9.setCell ⟨bt, 0, none⟩ (.int .i64 x3)).setCell ⟨bt, 1, none⟩ (.int .i64 y3)).cell? ⟨w.heap.size, 0, none⟩ = some (.int .i64 an) := set_other a0_ nt0
  have a1 : ((w9.setCell ⟨bt, 0, none⟩ (.int .i64 x3)).setCell ⟨bt, 1, none⟩ (.int .i64 y3)).cell? ⟨w.heap.size, 1, none⟩ = some (.int .i64 ad) := set_other a1_ nt0
  have a2 : ((w9.setCell ⟨bt, 0, none⟩ (.int .i64 x3)).setCell ⟨bt, 1, none⟩ (.int .i64 y3)).cell? ⟨w.heap.size + 1, 0, none⟩ = some (.int .i64 bn) := set_other a2_ nt1
  have a3 : ((w9.setCell ⟨bt, 0, none⟩ (.int .i64 x3)).setCell ⟨bt, 1, none⟩ (.int .i64 y3)).cell? ⟨w.heap.size + 1, 1, none⟩ = some (.int .i64 bd) := set_other a3_ nt1
  have s0 : ((w9.setCell ⟨bt, 0, none⟩ (.int .i64 x3)).setCell ⟨bt, 1, none⟩ (.int .i64 y3)).cell? ⟨bs, 0, none⟩ = some (.int .i64 x3) := set_other s0_ nt2
  have s1 : ((w9.setCell ⟨bt, 0, none⟩ (.int .i64 x3)).setCell ⟨bt, 1, none⟩ (.int .i64 y3)).cell? ⟨bs, 1, none⟩ = some (.int .i64 y3) := set_other s1_ nt2
  have t0 : ((w9.setCell ⟨bt, 0, none⟩ (.int .i64 x3)).setCell ⟨bt, 1, none⟩ (.int .i64 y3)).cell? ⟨bt, 0, none⟩ = some (.int .i64 x3) := by simp [go_sem, *]
  have t1 : ((w9.setCell ⟨bt, 0, none⟩ (.int .i64 x3)).setCell ⟨bt, 1, none⟩ (.int .i64 y3)).cell? ⟨bt, 1, none⟩ = some (.int .i64 y3) := by simp [go_sem, *]
  have sf0 : ((w9.setCell ⟨bt, 0, none⟩ (.int .i64 x3)).setCell ⟨bt, 1, none⟩ (.int .i64 y3)).frozen? ⟨bs, 0, none⟩ = false := set_fz sf0_
  have sf1 : ((w9.setCell ⟨bt, 0, none⟩ (.int .i64 x3)).setCell ⟨bt, 1, none⟩ (.int .i64 y3)).frozen? ⟨bs, 1, none⟩ = false := set_fz sf1_
  have tf0 : ((w9.setCell ⟨bt, 0, none⟩ (.int .i64 x3)).setCell ⟨bt, 1, none⟩ (.int .i64 y3)).frozen? ⟨bt, 0, none⟩ = false := set_fz tf0_
  have tf1 : ((w9.setCell ⟨bt, 0, none⟩ (.int .i64 x3)).setCell ⟨bt, 1, none⟩ (.int .i64 y3)).frozen? ⟨bt, 1, none⟩ = false := set_fz tf1_
  have hB : Below w.heap.size w ((w9.setCell ⟨bt, 0, none⟩ (.int .i64 x3)).setCell ⟨bt, 1, none⟩ (.int .i64 y3)) := set2 hB_ (by omega) _ _
  clear hB_ a0_ a1_ a2_ a3_ s0_ s1_ t0_ t1_ sf0_ sf1_ tf0_ tf1_
  generalize ((w9.setCell ⟨bt, 0, none⟩ (.int .i64 x3)).setCell ⟨bt, 1, none⟩ (.int .i64 y3)) = V9 at *
  go_region_held3 (fun w' => w'.cell? ⟨w.heap.size, 0, none⟩ = some (.int .i64 an) ∧ w'.cell? ⟨w.heap.size, 1, none⟩ = some (.int .i64 ad) ∧ w'.cell? ⟨w.heap.size + 1, 0, none⟩ = some (.int .i64 bn) ∧ w'.cell? ⟨w.heap.size + 1, 1, none⟩ = some (.int .i64 bd) ∧ w'.cell? ⟨bs, 0, none⟩ = some (.int .i64 x3) ∧ w'.cell? ⟨bs, 1, none⟩ = some (.int .i64 y3) ∧ w'.cell? ⟨bt, 0, none⟩ = some (.int .i64 x3) ∧ w'.cell? ⟨bt, 1, none⟩ = some (.int .i64 y3) ∧ Below w.heap.size w w')
    (first | exact ⟨by assumption, by assumption, by assumption, by assumption, by assumption, by assumption, by assumption, by assumption, by first | assumption | exact Below.drew (by assumption)⟩ | go_keep)
    (first
      | (go_at_call 22; refine (HC.out _).mono ?_; rintro e' w' ⟨rfl, hb⟩; have v0 := kc ⟨w.heap.size, 0, none⟩ (.int .i64 an) hb (by first | assumption | simp [go_sem, *]); have v1 := kc ⟨w.heap.size, 1, none⟩ (.int .i64 ad) hb (by first | assumption | simp [go_sem, *]); have v2 := kc ⟨w.heap.size + 1, 0, none⟩ (.int .i64 bn) hb (by first | assumption | simp [go_sem, *]); have v3 := kc ⟨w.heap.size + 1, 1, none⟩ (.int .i64 bd) hb (by first | assumption | simp [go_sem, *]); have v4 := kc ⟨bs, 0, none⟩ (.int .i64 x3) hb (by first | assumption | simp [go_sem, *]); have v5 := kc ⟨bs, 1, none⟩ (.int .i64 y3) hb (by first | assumption | simp [go_sem, *]); have v6 := kc ⟨bt, 0, none⟩ (.int .i64 x3) hb (by first | assumption | simp [go_sem, *]); have v7 := kc ⟨bt, 1, none⟩ (.int .i64 y3) hb (by first | assumption | simp [go_sem, *]); have hX := beyond (w := w) (by first | assumption | exact Below.drew (by assumption)) hb)
      | (go_at_call 23; refine (GC.out _).mono ?_; rintro e' w' ⟨rfl, hb⟩; have v0 := kc ⟨w.heap.size, 0, none⟩ (.int .i64 an) hb (by first | assumption | simp [go_sem, *]); have v1 := kc ⟨w.heap.size, 1, none⟩ (.int .i64 ad) hb (by first | assumption | simp [go_sem, *]); have v2 := kc ⟨w.heap.size + 1, 0, none⟩ (.int .i64 bn) hb (by first | assumption | simp [go_sem, *]); have v3 := kc ⟨w.heap.size + 1, 1, none⟩ (.int .i64 bd) hb (by first | assumption | simp [go_sem, *]); have v4 := kc ⟨bs, 0, none⟩ (.int .i64 x3) hb (by first | assumption | simp [go_sem, *]); have v5 := kc ⟨bs, 1, none⟩ (.int .i64 y3) hb (by first | assumption | simp [go_sem, *]); have v6 := kc ⟨bt, 0, none⟩ (.int .i64 x3) hb (by first | assumption | simp [go_sem, *]); have v7 := kc ⟨bt, 1, none⟩ (.int .i64 y3) hb (by first | assumption | simp [go_sem, *]); have hX := beyond (w := w) (by first | assumption | exact Below.drew (by assumption)) hb))
  all_goals
    go_wp2_with fail
    go_ret
    exact ⟨rfl, by assumption⟩
theorem ratSums.walk (an : Int) (han : (Lit.int .i64 an).wf = true) (ad : Int) (had : (Lit.int .i64 ad).wf = true) (bn : Int) (hbn : (Lit.int .i64 bn).wf = true) (bd : Int) (hbd : (Lit.int .i64 bd).wf = true) (w : World) (ht : Pow w) :
    Calls Tryd.prog 4 #[rv an ad, rv bn bd] w fun e w' => e = .returned (.bool true) ∧ Below w.heap.size w w' := by
  have h1 := i64_wf han
  have h2 := i64_wf had
  have h3 := i64_wf hbn
  have h4 := i64_wf hbd
  exact sums_raw an ad bn bd _ _ _ _ _ _ _ _ _ _ _ _ _ w ht
    (fun w => radd_any an ad bn bd w h1 h2 h3 h4) (fun w => xadd_any an ad bn bd w h1 h2 h3 h4)
    (fun w => rsub_any an ad bn bd w h1 h2 h3 h4) (fun w => xsub_any an ad bn bd w h1 h2 h3 h4)
    (fun w => rmul_any an ad bn bd w h1 h2 h3 h4) (fun w => xmulr_any an ad bn bd w h1 h2 h3 h4)
    (fun w => rdiv_any an ad bn bd w h1 h2 h3 h4) (fun w => xdivr_any an ad bn bd w h1 h2 h3 h4)
    (fun w => rcmp_any an ad bn bd w h1 h2 h3 h4) (fun w => xcmp_any an ad bn bd w h1 h2 h3 h4)
end Go.Proofs.YtnhopmoboahlgaaDoor
