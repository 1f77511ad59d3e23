/-
  The contracts of the document's held and New.
-/
import Derived.Test.YtnhopmoboahlgaaDoorXe
import Derived.Test.YtnhopmoboahlgaaDoorVe
namespace Go.Proofs.YtnhopmoboahlgaaDoor
open Go.RowKit Go.Shelf
set_option linter.unusedVariables false
def moreOf (g : Bool) : Int := if g then 9223372036854775808 else 9223372036854775807
set_option maxRecDepth 100000 in
theorem xheld_zero (g : Bool) (ph pl : Int) (w : World) :
    Calls Tryd.prog 38 #[.bool g, .agg #[.int .u64 ph, .int .u64 pl], .agg #[.int .u64 0, .int .u64 0]] w fun e w' => e = .returned (trip (0, 0, 21)) ∧ Below w.heap.size w w' := by
  have n1 : ¬ w.heap.size = w.heap.size + 1 + 1 := by omega
  have n2 : ¬ w.heap.size + 1 + 1 = w.heap.size := by omega
  go_enter Tryd.func38, Tryd.ntmps38
  go_wp2_with fail
  refine bodyPost_ret (v := trip (0, 0, 21)) (by simp [results, Tryd.results38, go_sem, *]) rfl ⟨rfl, ?_⟩
  first | exact three w _ _ _ | exact set2 (three w _ _ _) (by omega) _ _
set_option maxRecDepth 100000 in
set_option maxHeartbeats 8000000 in
theorem xheld_h_false_f1 (ph pl qh ql gh gl ah al bh bl xh xl yh yl : Int) (w : World) (hq : ¬ qh = 0) (hc : ¬ ah = 0)
    (HC : Hid (∀ w, Calls Tryd.prog 42 #[.agg #[.int .u64 ph, .int .u64 pl], .agg #[.int .u64 qh, .int .u64 ql]] w fun e w' => e = .returned (.agg #[.int .u64 gh, .int .u64 gl]) ∧ Below w.heap.size w w'))
    (HD1 : Hid (∀ w, Calls Tryd.prog 65 #[.agg #[.int .u64 ph, .int .u64 pl], .agg #[.int .u64 gh, .int .u64 gl]] w fun e w' => e = .returned (.tuple #[.agg #[.int .u64 ah, .int .u64 al], .agg #[.int .u64 xh, .int .u64 xl]]) ∧ Below w.heap.size w w'))
    (HD2 : Hid (∀ w, Calls Tryd.prog 65 #[.agg #[.int .u64 qh, .int .u64 ql], .agg #[.int .u64 gh, .int .u64 gl]] w fun e w' => e = .returned (.tuple #[.agg #[.int .u64 bh, .int .u64 bl], .agg #[.int .u64 yh, .int .u64 yl]]) ∧ Below w.heap.size w w')) :
    Calls Tryd.prog 38 #[.bool false, .agg #[.int .u64 ph, .int .u64 pl], .agg #[.int .u64 qh, .int .u64 ql]] w fun e w' => e = .returned (trip (0, 0, 20)) ∧ Below w.heap.size w w' := by
  have n1 : ¬ w.heap.size = w.heap.size + 1 + 1 := by omega
  have n2 : ¬ w.heap.size + 1 + 1 = w.heap.size := by omega
  go_enter Tryd.func38, Tryd.ntmps38
  go_wp2_with fail
  refine (HC.out _).mono ?_
  rintro e w1 ⟨rfl, hb⟩
  have s0 := kc ⟨w.heap.size, 0, none⟩ (.int .u64 ph) hb (by first | assumption | simp [go_sem, *])
  have s1 := kc ⟨w.heap.size, 1, none⟩ (.int .u64 pl) hb (by first | assumption | simp [go_sem, *])
  have s2 := kc ⟨w.heap.size + 1, 0, none⟩ (.int .u64 qh) hb (by first | assumption | simp [go_sem, *])
  have s3 := kc ⟨w.heap.size + 1, 1, none⟩ (.int .u64 ql) hb (by first | assumption | simp [go_sem, *])
  have s4 := kc ⟨w.heap.size + 1 + 1, 0, none⟩ (.int .i64 0) hb (by first | assumption | simp [go_sem, *])
  have s5 := kc ⟨w.heap.size + 1 + 1, 1, none⟩ (.int .i64 0) hb (by first | assumption | simp [go_sem, *])
  have sf0 := kf ⟨w.heap.size + 1 + 1, 0, none⟩ (.int .i64 0) hb (by first | assumption | simp [go_sem, *]) (by first | assumption | simp [go_sem, *])
  have sf1 := kf ⟨w.heap.size + 1 + 1, 1, none⟩ (.int .i64 0) hb (by first | assumption | simp [go_sem, *]) (by first | assumption | simp [go_sem, *])
  have hB1 : Below w.heap.size w w1 := beyond (three w _ _ _) hb
  clear hb
  have l1 : w.heap.size + 1 + 1 < w1.heap.size := World.block_lt_of_cell? _ _ s4
  go_upto_region 4 with (fail)
  have t0 : (w1.alloc (.cells #[.int .u64 gh, .int .u64 gl] 54)).cell? ⟨w.heap.size, 0, none⟩ = some (.int .u64 ph) := kc _ _ (single _ _) s0
  have t1 : (w1.alloc (.cells #[.int .u64 gh, .int .u64 gl] 54)).cell? ⟨w.heap.size, 1, none⟩ = some (.int .u64 pl) := kc _ _ (single _ _) s1
  have t2 : (w1.alloc (.cells #[.int .u64 gh, .int .u64 gl] 54)).cell? ⟨w.heap.size + 1, 0, none⟩ = some (.int .u64 qh) := kc _ _ (single _ _) s2
  have t3 : (w1.alloc (.cells #[.int .u64 gh, .int .u64 gl] 54)).cell? ⟨w.heap.size + 1, 1, none⟩ = some (.int .u64 ql) := kc _ _ (single _ _) s3
  have t4 : (w1.alloc (.cells #[.int .u64 gh, .int .u64 gl] 54)).cell? ⟨w.heap.size + 1 + 1, 0, none⟩ = some (.int .i64 0) := kc _ _ (single _ _) s4
  have t5 : (w1.alloc (.cells #[.int .u64 gh, .int .u64 gl] 54)).cell? ⟨w.heap.size + 1 + 1, 1, none⟩ = some (.int .i64 0) := kc _ _ (single _ _) s5
  have tf0 : (w1.alloc (.cells #[.int .u64 gh, .int .u64 gl] 54)).frozen? ⟨w.heap.size + 1 + 1, 0, none⟩ = false := kf _ _ (single _ _) s4 sf0
  have tf1 : (w1.alloc (.cells #[.int .u64 gh, .int .u64 gl] 54)).frozen? ⟨w.heap.size + 1 + 1, 1, none⟩ = false := kf _ _ (single _ _) s5 sf1
  have tg0 : (w1.alloc (.cells #[.int .u64 gh, .int .u64 gl] 54)).cell? ⟨w1.heap.size, 0, none⟩ = some (.int .u64 gh) := new_cell w1 _ _ 0
  have tg1 : (w1.alloc (.cells #[.int .u64 gh, .int .u64 gl] 54)).cell? ⟨w1.heap.size, 1, none⟩ = some (.int .u64 gl) := new_cell w1 _ _ 1
  have hBG : Below w.heap.size w (w1.alloc (.cells #[.int .u64 gh, .int .u64 gl] 54)) := beyond hB1 (single _ _)
  clear s0 s1 s2 s3 s4 s5 sf0 sf1 hB1 HC
  generalize (w1.alloc (.cells #[.int .u64 gh, .int .u64 gl] 54)) = W1 at *
  generalize w1.heap.size = bg at *
  go_wp2_with fail
  refine (HD1.out _).mono ?_
  rintro e w2 ⟨rfl, hb⟩
  have u0 := kc _ _ hb t0
  have u1 := kc _ _ hb t1
  have u2 := kc _ _ hb t2
  have u3 := kc _ _ hb t3
  have u4 := kc _ _ hb t4
  have u5 := kc _ _ hb t5
  have uf0 := kf _ _ hb t4 tf0
  have uf1 := kf _ _ hb t5 tf1
  have ug0 := kc _ _ hb tg0
  have ug1 := kc _ _ hb tg1
  have hB2 : Below w.heap.size w w2 := beyond hBG hb
  clear hb t0 t1 t2 t3 t4 t5 tf0 tf1 tg0 tg1 hBG HD1
  go_upto_region 5 with (fail)
  have v0 : ((w2.alloc (.cells #[.int .u64 ah, .int .u64 al] 54)).alloc (.cells #[.int .u64 xh, .int .u64 xl] 54)).cell? ⟨w.heap.size, 0, none⟩ = some (.int .u64 ph) := kc _ _ (two _ _ _) u0
  have v1 : ((w2.alloc (.cells #[.int .u64 ah, .int .u64 al] 54)).alloc (.cells #[.int .u64 xh, .int .u64 xl] 54)).cell? ⟨w.heap.size, 1, none⟩ = some (.int .u64 pl) := kc _ _ (two _ _ _) u1
  have v2 : ((w2.alloc (.cells #[.int .u64 ah, .int .u64 al] 54)).alloc (.cells #[.int .u64 xh, .int .u64 xl] 54)).cell? ⟨w.heap.size + 1, 0, none⟩ = some (.int .u64 qh) := kc _ _ (two _ _ _) u2
  have v3 : ((w2.alloc (.cells #[.int .u64 ah, .int .u64 al] 54)).alloc (.cells #[.int .u64 xh, .int .u64 xl] 54)).cell? ⟨w.heap.size + 1, 1, none⟩ = some (.int .u64 ql) := kc _ _ (two _ _ _) u3
  have v4 : ((w2.alloc (.cells #[.int .u64 ah, .int .u64 al] 54)).alloc (.cells #[.int .u64 xh, .int .u64 xl] 54)).cell? ⟨w.heap.size + 1 + 1, 0, none⟩ = some (.int .i64 0) := kc _ _ (two _ _ _) u4
  have v5 : ((w2.alloc (.cells #[.int .u64 ah, .int .u64 al] 54)).alloc (.cells #[.int .u64 xh, .int .u64 xl] 54)).cell? ⟨w.heap.size + 1 + 1, 1, none⟩ = some (.int .i64 0) := kc _ _ (two _ _ _) u5
  have vf0 : ((w2.alloc (.cells #[.int .u64 ah, .int .u64 al] 54)).alloc (.cells #[.int .u64 xh, .int .u64 xl] 54)).frozen? ⟨w.heap.size + 1 + 1, 0, none⟩ = false := kf _ _ (two _ _ _) u4 uf0
  have vf1 : ((w2.alloc (.cells #[.int .u64 ah, .int .u64 al] 54)).alloc (.cells #[.int .u64 xh, .int .u64 xl] 54)).frozen? ⟨w.heap.size + 1 + 1, 1, none⟩ = false := kf _ _ (two _ _ _) u5 uf1
  have vg0 : ((w2.alloc (.cells #[.int .u64 ah, .int .u64 al] 54)).alloc (.cells #[.int .u64 xh, .int .u64 xl] 54)).cell? ⟨bg, 0, none⟩ = some (.int .u64 gh) := kc _ _ (two _ _ _) ug0
  have vg1 : ((w2.alloc (.cells #[.int .u64 ah, .int .u64 al] 54)).alloc (.cells #[.int .u64 xh, .int .u64 xl] 54)).cell? ⟨bg, 1, none⟩ = some (.int .u64 gl) := kc _ _ (two _ _ _) ug1
  have vn0 : ((w2.alloc (.cells #[.int .u64 ah, .int .u64 al] 54)).alloc (.cells #[.int .u64 xh, .int .u64 xl] 54)).cell? ⟨w2.heap.size, 0, none⟩ = some (.int .u64 ah) := newC3 w2 _ _ _ 0
  have vn1 : ((w2.alloc (.cells #[.int .u64 ah, .int .u64 al] 54)).alloc (.cells #[.int .u64 xh, .int .u64 xl] 54)).cell? ⟨w2.heap.size, 1, none⟩ = some (.int .u64 al) := newC3 w2 _ _ _ 1
  have hB3 : Below w.heap.size w ((w2.alloc (.cells #[.int .u64 ah, .int .u64 al] 54)).alloc (.cells #[.int .u64 xh, .int .u64 xl] 54)) := beyond hB2 (two _ _ _)
  clear u0 u1 u2 u3 u4 u5 uf0 uf1 ug0 ug1 hB2
  generalize ((w2.alloc (.cells #[.int .u64 ah, .int .u64 al] 54)).alloc (.cells #[.int .u64 xh, .int .u64 xl] 54)) = W2 at *
  generalize w2.heap.size = bn at *
  go_wp2_with fail
  refine (HD2.out _).mono ?_
  rintro e w3 ⟨rfl, hb⟩
  have u4 := kc _ _ hb v4
  have u5 := kc _ _ hb v5
  have uf0 := kf _ _ hb v4 vf0
  have uf1 := kf _ _ hb v5 vf1
  have un0 := kc _ _ hb vn0
  have un1 := kc _ _ hb vn1
  have hB4 : Below w.heap.size w w3 := beyond hB3 hb
  clear hb v0 v1 v2 v3 v4 v5 vf0 vf1 vg0 vg1 vn0 vn1 hB3 HD2 hq
  go_upto_region 6 with (fail)
  have x4 : ((w3.alloc (.cells #[.int .u64 bh, .int .u64 bl] 54)).alloc (.cells #[.int .u64 yh, .int .u64 yl] 54)).cell? ⟨w.heap.size + 1 + 1, 0, none⟩ = some (.int .i64 0) := kc _ _ (two _ _ _) u4
  have x5 : ((w3.alloc (.cells #[.int .u64 bh, .int .u64 bl] 54)).alloc (.cells #[.int .u64 yh, .int .u64 yl] 54)).cell? ⟨w.heap.size + 1 + 1, 1, none⟩ = some (.int .i64 0) := kc _ _ (two _ _ _) u5
  have xf0 : ((w3.alloc (.cells #[.int .u64 bh, .int .u64 bl] 54)).alloc (.cells #[.int .u64 yh, .int .u64 yl] 54)).frozen? ⟨w.heap.size + 1 + 1, 0, none⟩ = false := kf _ _ (two _ _ _) u4 uf0
  have xf1 : ((w3.alloc (.cells #[.int .u64 bh, .int .u64 bl] 54)).alloc (.cells #[.int .u64 yh, .int .u64 yl] 54)).frozen? ⟨w.heap.size + 1 + 1, 1, none⟩ = false := kf _ _ (two _ _ _) u5 uf1
  have xn0 : ((w3.alloc (.cells #[.int .u64 bh, .int .u64 bl] 54)).alloc (.cells #[.int .u64 yh, .int .u64 yl] 54)).cell? ⟨bn, 0, none⟩ = some (.int .u64 ah) := kc _ _ (two _ _ _) un0
  have xn1 : ((w3.alloc (.cells #[.int .u64 bh, .int .u64 bl] 54)).alloc (.cells #[.int .u64 yh, .int .u64 yl] 54)).cell? ⟨bn, 1, none⟩ = some (.int .u64 al) := kc _ _ (two _ _ _) un1
  have xd0 : ((w3.alloc (.cells #[.int .u64 bh, .int .u64 bl] 54)).alloc (.cells #[.int .u64 yh, .int .u64 yl] 54)).cell? ⟨w3.heap.size, 0, none⟩ = some (.int .u64 bh) := newC3 w3 _ _ _ 0
  have xd1 : ((w3.alloc (.cells #[.int .u64 bh, .int .u64 bl] 54)).alloc (.cells #[.int .u64 yh, .int .u64 yl] 54)).cell? ⟨w3.heap.size, 1, none⟩ = some (.int .u64 bl) := newC3 w3 _ _ _ 1
  have hB5 : Below w.heap.size w ((w3.alloc (.cells #[.int .u64 bh, .int .u64 bl] 54)).alloc (.cells #[.int .u64 yh, .int .u64 yl] 54)) := beyond hB4 (two _ _ _)
  clear u4 u5 uf0 uf1 un0 un1 hB4
  generalize ((w3.alloc (.cells #[.int .u64 bh, .int .u64 bl] 54)).alloc (.cells #[.int .u64 yh, .int .u64 yl] 54)) = W3 at *
  generalize w3.heap.size = bd at *
  have y4 : ∀ O, (W3.alloc O).cell? ⟨w.heap.size + 1 + 1, 0, none⟩ = some (.int .i64 0) := fun O => kc _ _ (single _ _) x4
  have y5 : ∀ O, (W3.alloc O).cell? ⟨w.heap.size + 1 + 1, 1, none⟩ = some (.int .i64 0) := fun O => kc _ _ (single _ _) x5
  have yn0 : ∀ O, (W3.alloc O).cell? ⟨bn, 0, none⟩ = some (.int .u64 ah) := fun O => kc _ _ (single _ _) xn0
  have yn1 : ∀ O, (W3.alloc O).cell? ⟨bn, 1, none⟩ = some (.int .u64 al) := fun O => kc _ _ (single _ _) xn1
  have yf0 : ∀ O, (W3.alloc O).frozen? ⟨w.heap.size + 1 + 1, 0, none⟩ = false := fun O => kf _ _ (single _ _) x4 xf0
  have yf1 : ∀ O, (W3.alloc O).frozen? ⟨w.heap.size + 1 + 1, 1, none⟩ = false := fun O => kf _ _ (single _ _) x5 xf1
  have l3 : w.heap.size + 1 + 1 < W3.heap.size := World.block_lt_of_cell? _ _ x4
  have l4 : bn < W3.heap.size := World.block_lt_of_cell? _ _ xn0
  have m1 : ¬ W3.heap.size = w.heap.size + 1 + 1 := by omega
  have m2 : ¬ w.heap.size + 1 + 1 = W3.heap.size := by omega
  have m3 : ¬ W3.heap.size = bn := by omega
  have m4 : ¬ bn = W3.heap.size := by omega
  have HB6 := hideR (show ∀ O, Below w.heap.size w (W3.alloc O) from fun O => beyond hB5 (single _ _))
  have HB5 := hideR hB5
  clear l1 l3 l4 hB5
  go_wp2_with fail
  refine bodyPost_ret (v := trip (0, 0, 20)) (by simp [results, Tryd.results38, go_sem, *]) rfl ⟨rfl, ?_⟩
  first | exact set2 HB5.out (by omega) _ _ | exact set2 (HB6.out _) (by omega) _ _ | exact HB5.out | (refine set2 (Below.setCell (HB6.out _) ?_ _) (by omega) _ _; have := (HB6.out default).size; simp at this; omega) | trace_state
set_option maxRecDepth 100000 in
set_option maxHeartbeats 8000000 in
theorem xheld_h_false_f2 (ph pl qh ql gh gl al bh bl xh xl yh yl : Int) (w : World) (hq : ¬ qh = 0) (hc : 9223372036854775807 < al)
    (HC : Hid (∀ w, Calls Tryd.prog 42 #[.agg #[.int .u64 ph, .int .u64 pl], .agg #[.int .u64 qh, .int .u64 ql]] w fun e w' => e = .returned (.agg #[.int .u64 gh, .int .u64 gl]) ∧ Below w.heap.size w w'))
    (HD1 : Hid (∀ w, Calls Tryd.prog 65 #[.agg #[.int .u64 ph, .int .u64 pl], .agg #[.int .u64 gh, .int .u64 gl]] w fun e w' => e = .returned (.tuple #[.agg #[.int .u64 0, .int .u64 al], .agg #[.int .u64 xh, .int .u64 xl]]) ∧ Below w.heap.size w w'))
    (HD2 : Hid (∀ w, Calls Tryd.prog 65 #[.agg #[.int .u64 qh, .int .u64 ql], .agg #[.int .u64 gh, .int .u64 gl]] w fun e w' => e = .returned (.tuple #[.agg #[.int .u64 bh, .int .u64 bl], .agg #[.int .u64 yh, .int .u64 yl]]) ∧ Below w.heap.size w w')) :
    Calls Tryd.prog 38 #[.bool false, .agg #[.int .u64 ph, .int .u64 pl], .agg #[.int .u64 qh, .int .u64 ql]] w fun e w' => e = .returned (trip (0, 0, 20)) ∧ Below w.heap.size w w' := by
  have n1 : ¬ w.heap.size = w.heap.size + 1 + 1 := by omega
  have n2 : ¬ w.heap.size + 1 + 1 = w.heap.size := by omega
  go_enter Tryd.func38, Tryd.ntmps38
  go_wp2_with fail
  refine (HC.out _).mono ?_
  rintro e w1 ⟨rfl, hb⟩
  have s0 := kc ⟨w.heap.size, 0, none⟩ (.int .u64 ph) hb (by first | assumption | simp [go_sem, *])
  have s1 := kc ⟨w.heap.size, 1, none⟩ (.int .u64 pl) hb (by first | assumption | simp [go_sem, *])
  have s2 := kc ⟨w.heap.size + 1, 0, none⟩ (.int .u64 qh) hb (by first | assumption | simp [go_sem, *])
  have s3 := kc ⟨w.heap.size + 1, 1, none⟩ (.int .u64 ql) hb (by first | assumption | simp [go_sem, *])
  have s4 := kc ⟨w.heap.size + 1 + 1, 0, none⟩ (.int .i64 0) hb (by first | assumption | simp [go_sem, *])
  have s5 := kc ⟨w.heap.size + 1 + 1, 1, none⟩ (.int .i64 0) hb (by first | assumption | simp [go_sem, *])
  have sf0 := kf ⟨w.heap.size + 1 + 1, 0, none⟩ (.int .i64 0) hb (by first | assumption | simp [go_sem, *]) (by first | assumption | simp [go_sem, *])
  have sf1 := kf ⟨w.heap.size + 1 + 1, 1, none⟩ (.int .i64 0) hb (by first | assumption | simp [go_sem, *]) (by first | assumption | simp [go_sem, *])
  have hB1 : Below w.heap.size w w1 := beyond (three w _ _ _) hb
  clear hb
  have l1 : w.heap.size + 1 + 1 < w1.heap.size := World.block_lt_of_cell? _ _ s4
  go_upto_region 4 with (fail)
  have t0 : (w1.alloc (.cells #[.int .u64 gh, .int .u64 gl] 54)).cell? ⟨w.heap.size, 0, none⟩ = some (.int .u64 ph) := kc _ _ (single _ _) s0
  have t1 : (w1.alloc (.cells #[.int .u64 gh, .int .u64 gl] 54)).cell? ⟨w.heap.size, 1, none⟩ = some (.int .u64 pl) := kc _ _ (single _ _) s1
  have t2 : (w1.alloc (.cells #[.int .u64 gh, .int .u64 gl] 54)).cell? ⟨w.heap.size + 1, 0, none⟩ = some (.int .u64 qh) := kc _ _ (single _ _) s2
  have t3 : (w1.alloc (.cells #[.int .u64 gh, .int .u64 gl] 54)).cell? ⟨w.heap.size + 1, 1, none⟩ = some (.int .u64 ql) := kc _ _ (single _ _) s3
  have t4 : (w1.alloc (.cells #[.int .u64 gh, .int .u64 gl] 54)).cell? ⟨w.heap.size + 1 + 1, 0, none⟩ = some (.int .i64 0) := kc _ _ (single _ _) s4
  have t5 : (w1.alloc (.cells #[.int .u64 gh, .int .u64 gl] 54)).cell? ⟨w.heap.size + 1 + 1, 1, none⟩ = some (.int .i64 0) := kc _ _ (single _ _) s5
  have tf0 : (w1.alloc (.cells #[.int .u64 gh, .int .u64 gl] 54)).frozen? ⟨w.heap.size + 1 + 1, 0, none⟩ = false := kf _ _ (single _ _) s4 sf0
  have tf1 : (w1.alloc (.cells #[.int .u64 gh, .int .u64 gl] 54)).frozen? ⟨w.heap.size + 1 + 1, 1, none⟩ = false := kf _ _ (single _ _) s5 sf1
  have tg0 : (w1.alloc (.cells #[.int .u64 gh, .int .u64 gl] 54)).cell? ⟨w1.heap.size, 0, none⟩ = some (.int .u64 gh) := new_cell w1 _ _ 0
  have tg1 : (w1.alloc (.cells #[.int .u64 gh, .int .u64 gl] 54)).cell? ⟨w1.heap.size, 1, none⟩ = some (.int .u64 gl) := new_cell w1 _ _ 1
  have hBG : Below w.heap.size w (w1.alloc (.cells #[.int .u64 gh, .int .u64 gl] 54)) := beyond hB1 (single _ _)
  clear s0 s1 s2 s3 s4 s5 sf0 sf1 hB1 HC
  generalize (w1.alloc (.cells #[.int .u64 gh, .int .u64 gl] 54)) = W1 at *
  generalize w1.heap.size = bg at *
  go_wp2_with fail
  refine (HD1.out _).mono ?_
  rintro e w2 ⟨rfl, hb⟩
  have u0 := kc _ _ hb t0
  have u1 := kc _ _ hb t1
  have u2 := kc _ _ hb t2
  have u3 := kc _ _ hb t3
  have u4 := kc _ _ hb t4
  have u5 := kc _ _ hb t5
  have uf0 := kf _ _ hb t4 tf0
  have uf1 := kf _ _ hb t5 tf1
  have ug0 := kc _ _ hb tg0
  have ug1 := kc _ _ hb tg1
  have hB2 : Below w.heap.size w w2 := beyond hBG hb
  clear hb t0 t1 t2 t3 t4 t5 tf0 tf1 tg0 tg1 hBG HD1
  go_upto_region 5 with (fail)
  have v0 : ((w2.alloc (.cells #[.int .u64 0, .int .u64 al] 54)).alloc (.cells #[.int .u64 xh, .int .u64 xl] 54)).cell? ⟨w.heap.size, 0, none⟩ = some (.int .u64 ph) := kc _ _ (two _ _ _) u0
  have v1 : ((w2.alloc (.cells #[.int .u64 0, .int .u64 al] 54)).alloc (.cells #[.int .u64 xh, .int .u64 xl] 54)).cell? ⟨w.heap.size, 1, none⟩ = some (.int .u64 pl) := kc _ _ (two _ _ _) u1
  have v2 : ((w2.alloc (.cells #[.int .u64 0, .int .u64 al] 54)).alloc (.cells #[.int .u64 xh, .int .u64 xl] 54)).cell? ⟨w.heap.size + 1, 0, none⟩ = some (.int .u64 qh) := kc _ _ (two _ _ _) u2
  have v3 : ((w2.alloc (.cells #[.int .u64 0, .int .u64 al] 54)).alloc (.cells #[.int .u64 xh, .int .u64 xl] 54)).cell? ⟨w.heap.size + 1, 1, none⟩ = some (.int .u64 ql) := kc _ _ (two _ _ _) u3
  have v4 : ((w2.alloc (.cells #[.int .u64 0, .int .u64 al] 54)).alloc (.cells #[.int .u64 xh, .int .u64 xl] 54)).cell? ⟨w.heap.size + 1 + 1, 0, none⟩ = some (.int .i64 0) := kc _ _ (two _ _ _) u4
  have v5 : ((w2.alloc (.cells #[.int .u64 0, .int .u64 al] 54)).alloc (.cells #[.int .u64 xh, .int .u64 xl] 54)).cell? ⟨w.heap.size + 1 + 1, 1, none⟩ = some (.int .i64 0) := kc _ _ (two _ _ _) u5
  have vf0 : ((w2.alloc (.cells #[.int .u64 0, .int .u64 al] 54)).alloc (.cells #[.int .u64 xh, .int .u64 xl] 54)).frozen? ⟨w.heap.size + 1 + 1, 0, none⟩ = false := kf _ _ (two _ _ _) u4 uf0
  have vf1 : ((w2.alloc (.cells #[.int .u64 0, .int .u64 al] 54)).alloc (.cells #[.int .u64 xh, .int .u64 xl] 54)).frozen? ⟨w.heap.size + 1 + 1, 1, none⟩ = false := kf _ _ (two _ _ _) u5 uf1
  have vg0 : ((w2.alloc (.cells #[.int .u64 0, .int .u64 al] 54)).alloc (.cells #[.int .u64 xh, .int .u64 xl] 54)).cell? ⟨bg, 0, none⟩ = some (.int .u64 gh) := kc _ _ (two _ _ _) ug0
  have vg1 : ((w2.alloc (.cells #[.int .u64 0, .int .u64 al] 54)).alloc (.cells #[.int .u64 xh, .int .u64 xl] 54)).cell? ⟨bg, 1, none⟩ = some (.int .u64 gl) := kc _ _ (two _ _ _) ug1
  have vn0 : ((w2.alloc (.cells #[.int .u64 0, .int .u64 al] 54)).alloc (.cells #[.int .u64 xh, .int .u64 xl] 54)).cell? ⟨w2.heap.size, 0, none⟩ = some (.int .u64 0) := newC3 w2 _ _ _ 0
  have vn1 : ((w2.alloc (.cells #[.int .u64 0, .int .u64 al] 54)).alloc (.cells #[.int .u64 xh, .int .u64 xl] 54)).cell? ⟨w2.heap.size, 1, none⟩ = some (.int .u64 al) := newC3 w2 _ _ _ 1
  have hB3 : Below w.heap.size w ((w2.alloc (.cells #[.int .u64 0, .int .u64 al] 54)).alloc (.cells #[.int .u64 xh, .int .u64 xl] 54)) := beyond hB2 (two _ _ _)
  clear u0 u1 u2 u3 u4 u5 uf0 uf1 ug0 ug1 hB2
  generalize ((w2.alloc (.cells #[.int .u64 0, .int .u64 al] 54)).alloc (.cells #[.int .u64 xh, .int .u64 xl] 54)) = W2 at *
  generalize w2.heap.size = bn at *
  go_wp2_with fail
  refine (HD2.out _).mono ?_
  rintro e w3 ⟨rfl, hb⟩
  have u4 := kc _ _ hb v4
  have u5 := kc _ _ hb v5
  have uf0 := kf _ _ hb v4 vf0
  have uf1 := kf _ _ hb v5 vf1
  have un0 := kc _ _ hb vn0
  have un1 := kc _ _ hb vn1
  have hB4 : Below w.heap.size w w3 := beyond hB3 hb
  clear hb v0 v1 v2 v3 v4 v5 vf0 vf1 vg0 vg1 vn0 vn1 hB3 HD2 hq
  go_upto_region 6 with (fail)
  have x4 : ((w3.alloc (.cells #[.int .u64 bh, .int .u64 bl] 54)).alloc (.cells #[.int .u64 yh, .int .u64 yl] 54)).cell? ⟨w.heap.size + 1 + 1, 0, none⟩ = some (.int .i64 0) := kc _ _ (two _ _ _) u4
  have x5 : ((w3.alloc (.cells #[.int .u64 bh, .int .u64 bl] 54)).alloc (.cells #[.int .u64 yh, .int .u64 yl] 54)).cell? ⟨w.heap.size + 1 + 1, 1, none⟩ = some (.int .i64 0) := kc _ _ (two _ _ _) u5
  have xf0 : ((w3.alloc (.cells #[.int .u64 bh, .int .u64 bl] 54)).alloc (.cells #[.int .u64 yh, .int .u64 yl] 54)).frozen? ⟨w.heap.size + 1 + 1, 0, none⟩ = false := kf _ _ (two _ _ _) u4 uf0
  have xf1 : ((w3.alloc (.cells #[.int .u64 bh, .int .u64 bl] 54)).alloc (.cells #[.int .u64 yh, .int .u64 yl] 54)).frozen? ⟨w.heap.size + 1 + 1, 1, none⟩ = false := kf _ _ (two _ _ _) u5 uf1
  have xn0 : ((w3.alloc (.cells #[.int .u64 bh, .int .u64 bl] 54)).alloc (.cells #[.int .u64 yh, .int .u64 yl] 54)).cell? ⟨bn, 0, none⟩ = some (.int .u64 0) := kc _ _ (two _ _ _) un0
  have xn1 : ((w3.alloc (.cells #[.int .u64 bh, .int .u64 bl] 54)).alloc (.cells #[.int .u64 yh, .int .u64 yl] 54)).cell? ⟨bn, 1, none⟩ = some (.int .u64 al) := kc _ _ (two _ _ _) un1
  have xd0 : ((w3.alloc (.cells #[.int .u64 bh, .int .u64 bl] 54)).alloc (.cells #[.int .u64 yh, .int .u64 yl] 54)).cell? ⟨w3.heap.size, 0, none⟩ = some (.int .u64 bh) := newC3 w3 _ _ _ 0
  have xd1 : ((w3.alloc (.cells #[.int .u64 bh, .int .u64 bl] 54)).alloc (.cells #[.int .u64 yh, .int .u64 yl] 54)).cell? ⟨w3.heap.size, 1, none⟩ = some (.int .u64 bl) := newC3 w3 _ _ _ 1
  have hB5 : Below w.heap.size w ((w3.alloc (.cells #[.int .u64 bh, .int .u64 bl] 54)).alloc (.cells #[.int .u64 yh, .int .u64 yl] 54)) := beyond hB4 (two _ _ _)
  clear u4 u5 uf0 uf1 un0 un1 hB4
  generalize ((w3.alloc (.cells #[.int .u64 bh, .int .u64 bl] 54)).alloc (.cells #[.int .u64 yh, .int .u64 yl] 54)) = W3 at *
  generalize w3.heap.size = bd at *
  have y4 : ∀ O, (W3.alloc O).cell? ⟨w.heap.size + 1 + 1, 0, none⟩ = some (.int .i64 0) := fun O => kc _ _ (single _ _) x4
  have y5 : ∀ O, (W3.alloc O).cell? ⟨w.heap.size + 1 + 1, 1, none⟩ = some (.int .i64 0) := fun O => kc _ _ (single _ _) x5
  have yn0 : ∀ O, (W3.alloc O).cell? ⟨bn, 0, none⟩ = some (.int .u64 0) := fun O => kc _ _ (single _ _) xn0
  have yn1 : ∀ O, (W3.alloc O).cell? ⟨bn, 1, none⟩ = some (.int .u64 al) := fun O => kc _ _ (single _ _) xn1
  have yf0 : ∀ O, (W3.alloc O).frozen? ⟨w.heap.size + 1 + 1, 0, none⟩ = false := fun O => kf _ _ (single _ _) x4 xf0
  have yf1 : ∀ O, (W3.alloc O).frozen? ⟨w.heap.size + 1 + 1, 1, none⟩ = false := fun O => kf _ _ (single _ _) x5 xf1
  have l3 : w.heap.size + 1 + 1 < W3.heap.size := World.block_lt_of_cell? _ _ x4
  have l4 : bn < W3.heap.size := World.block_lt_of_cell? _ _ xn0
  have m1 : ¬ W3.heap.size = w.heap.size + 1 + 1 := by omega
  have m2 : ¬ w.heap.size + 1 + 1 = W3.heap.size := by omega
  have m3 : ¬ W3.heap.size = bn := by omega
  have m4 : ¬ bn = W3.heap.size := by omega
  have HB6 := hideR (show ∀ O, Below w.heap.size w (W3.alloc O) from fun O => beyond hB5 (single _ _))
  have HB5 := hideR hB5
  clear l1 l3 l4 hB5
  go_wp2_with fail
  refine bodyPost_ret (v := trip (0, 0, 20)) (by simp [results, Tryd.results38, go_sem, *]) rfl ⟨rfl, ?_⟩
  first | exact set2 HB5.out (by omega) _ _ | exact set2 (HB6.out _) (by omega) _ _ | exact HB5.out | (refine set2 (Below.setCell (HB6.out _) ?_ _) (by omega) _ _; have := (HB6.out default).size; simp at this; omega) | trace_state
set_option maxRecDepth 100000 in
set_option maxHeartbeats 8000000 in
theorem xheld_h_false_f3 (ph pl qh ql gh gl al bh bl xh xl yh yl : Int) (w : World) (hq : ¬ qh = 0) (e2 : ¬ 9223372036854775807 < al) (hc : ¬ bh = 0)
    (HC : Hid (∀ w, Calls Tryd.prog 42 #[.agg #[.int .u64 ph, .int .u64 pl], .agg #[.int .u64 qh, .int .u64 ql]] w fun e w' => e = .returned (.agg #[.int .u64 gh, .int .u64 gl]) ∧ Below w.heap.size w w'))
    (HD1 : Hid (∀ w, Calls Tryd.prog 65 #[.agg #[.int .u64 ph, .int .u64 pl], .agg #[.int .u64 gh, .int .u64 gl]] w fun e w' => e = .returned (.tuple #[.agg #[.int .u64 0, .int .u64 al], .agg #[.int .u64 xh, .int .u64 xl]]) ∧ Below w.heap.size w w'))
    (HD2 : Hid (∀ w, Calls Tryd.prog 65 #[.agg #[.int .u64 qh, .int .u64 ql], .agg #[.int .u64 gh, .int .u64 gl]] w fun e w' => e = .returned (.tuple #[.agg #[.int .u64 bh, .int .u64 bl], .agg #[.int .u64 yh, .int .u64 yl]]) ∧ Below w.heap.size w w')) :
    Calls Tryd.prog 38 #[.bool false, .agg #[.int .u64 ph, .int .u64 pl], .agg #[.int .u64 qh, .int .u64 ql]] w fun e w' => e = .returned (trip (0, 0, 20)) ∧ Below w.heap.size w w' := by
  have n1 : ¬ w.heap.size = w.heap.size + 1 + 1 := by omega
  have n2 : ¬ w.heap.size + 1 + 1 = w.heap.size := by omega
  go_enter Tryd.func38, Tryd.ntmps38
  go_wp2_with fail
  refine (HC.out _).mono ?_
  rintro e w1 ⟨rfl, hb⟩
  have s0 := kc ⟨w.heap.size, 0, none⟩ (.int .u64 ph) hb (by first | assumption | simp [go_sem, *])
  have s1 := kc ⟨w.heap.size, 1, none⟩ (.int .u64 pl) hb (by first | assumption | simp [go_sem, *])
  have s2 := kc ⟨w.heap.size + 1, 0, none⟩ (.int .u64 qh) hb (by first | assumption | simp [go_sem, *])
  have s3 := kc ⟨w.heap.size + 1, 1, none⟩ (.int .u64 ql) hb (by first | assumption | simp [go_sem, *])
  have s4 := kc ⟨w.heap.size + 1 + 1, 0, none⟩ (.int .i64 0) hb (by first | assumption | simp [go_sem, *])
  have s5 := kc ⟨w.heap.size + 1 + 1, 1, none⟩ (.int .i64 0) hb (by first | assumption | simp [go_sem, *])
  have sf0 := kf ⟨w.heap.size + 1 + 1, 0, none⟩ (.int .i64 0) hb (by first | assumption | simp [go_sem, *]) (by first | assumption | simp [go_sem, *])
  have sf1 := kf ⟨w.heap.size + 1 + 1, 1, none⟩ (.int .i64 0) hb (by first | assumption | simp [go_sem, *]) (by first | assumption | simp [go_sem, *])
  have hB1 : Below w.heap.size w w1 := beyond (three w _ _ _) hb
  clear hb
  have l1 : w.heap.size + 1 + 1 < w1.heap.size := World.block_lt_of_cell? _ _ s4
  go_upto_region 4 with (fail)
  have t0 : (w1.alloc (.cells #[.int .u64 gh, .int .u64 gl] 54)).cell? ⟨w.heap.size, 0, none⟩ = some (.int .u64 ph) := kc _ _ (single _ _) s0
  have t1 : (w1.alloc (.cells #[.int .u64 gh, .int .u64 gl] 54)).cell? ⟨w.heap.size, 1, none⟩ = some (.int .u64 pl) := kc _ _ (single _ _) s1
  have t2 : (w1.alloc (.cells #[.int .u64 gh, .int .u64 gl] 54)).cell? ⟨w.heap.size + 1, 0, none⟩ = some (.int .u64 qh) := kc _ _ (single _ _) s2
  have t3 : (w1.alloc (.cells #[.int .u64 gh, .int .u64 gl] 54)).cell? ⟨w.heap.size + 1, 1, none⟩ = some (.int .u64 ql) := kc _ _ (single _ _) s3
  have t4 : (w1.alloc (.cells #[.int .u64 gh, .int .u64 gl] 54)).cell? ⟨w.heap.size + 1 + 1, 0, none⟩ = some (.int .i64 0) := kc _ _ (single _ _) s4
  have t5 : (w1.alloc (.cells #[.int .u64 gh, .int .u64 gl] 54)).cell? ⟨w.heap.size + 1 + 1, 1, none⟩ = some (.int .i64 0) := kc _ _ (single _ _) s5
  have tf0 : (w1.alloc (.cells #[.int .u64 gh, .int .u64 gl] 54)).frozen? ⟨w.heap.size + 1 + 1, 0, none⟩ = false := kf _ _ (single _ _) s4 sf0
  have tf1 : (w1.alloc (.cells #[.int .u64 gh, .int .u64 gl] 54)).frozen? ⟨w.heap.size + 1 + 1, 1, none⟩ = false := kf _ _ (single _ _) s5 sf1
  have tg0 : (w1.alloc (.cells #[.int .u64 gh, .int .u64 gl] 54)).cell? ⟨w1.heap.size, 0, none⟩ = some (.int .u64 gh) := new_cell w1 _ _ 0
  have tg1 : (w1.alloc (.cells #[.int .u64 gh, .int .u64 gl] 54)).cell? ⟨w1.heap.size, 1, none⟩ = some (.int .u64 gl) := new_cell w1 _ _ 1
  have hBG : Below w.heap.size w (w1.alloc (.cells #[.int .u64 gh, .int .u64 gl] 54)) := beyond hB1 (single _ _)
  clear s0 s1 s2 s3 s4 s5 sf0 sf1 hB1 HC
  generalize (w1.alloc (.cells #[.int .u64 gh, .int .u64 gl] 54)) = W1 at *
  generalize w1.heap.size = bg at *
  go_wp2_with fail
  refine (HD1.out _).mono ?_
  rintro e w2 ⟨rfl, hb⟩
  have u0 := kc _ _ hb t0
  have u1 := kc _ _ hb t1
  have u2 := kc _ _ hb t2
  have u3 := kc _ _ hb t3
  have u4 := kc _ _ hb t4
  have u5 := kc _ _ hb t5
  have uf0 := kf _ _ hb t4 tf0
  have uf1 := kf _ _ hb t5 tf1
  have ug0 := kc _ _ hb tg0
  have ug1 := kc _ _ hb tg1
  have hB2 : Below w.heap.size w w2 := beyond hBG hb
  clear hb t0 t1 t2 t3 t4 t5 tf0 tf1 tg0 tg1 hBG HD1
  go_upto_region 5 with (fail)
  have v0 : ((w2.alloc (.cells #[.int .u64 0, .int .u64 al] 54)).alloc (.cells #[.int .u64 xh, .int .u64 xl] 54)).cell? ⟨w.heap.size, 0, none⟩ = some (.int .u64 ph) := kc _ _ (two _ _ _) u0
  have v1 : ((w2.alloc (.cells #[.int .u64 0, .int .u64 al] 54)).alloc (.cells #[.int .u64 xh, .int .u64 xl] 54)).cell? ⟨w.heap.size, 1, none⟩ = some (.int .u64 pl) := kc _ _ (two _ _ _) u1
  have v2 : ((w2.alloc (.cells #[.int .u64 0, .int .u64 al] 54)).alloc (.cells #[.int .u64 xh, .int .u64 xl] 54)).cell? ⟨w.heap.size + 1, 0, none⟩ = some (.int .u64 qh) := kc _ _ (two _ _ _) u2
  have v3 : ((w2.alloc (.cells #[.int .u64 0, .int .u64 al] 54)).alloc (.cells #[.int .u64 xh, .int .u64 xl] 54)).cell? ⟨w.heap.size + 1, 1, none⟩ = some (.int .u64 ql) := kc _ _ (two _ _ _) u3
  have v4 : ((w2.alloc (.cells #[.int .u64 0, .int .u64 al] 54)).alloc (.cells #[.int .u64 xh, .int .u64 xl] 54)).cell? ⟨w.heap.size + 1 + 1, 0, none⟩ = some (.int .i64 0) := kc _ _ (two _ _ _) u4
  have v5 : ((w2.alloc (.cells #[.int .u64 0, .int .u64 al] 54)).alloc (.cells #[.int .u64 xh, .int .u64 xl] 54)).cell? ⟨w.heap.size + 1 + 1, 1, none⟩ = some (.int .i64 0) := kc _ _ (two _ _ _) u5
  have vf0 : ((w2.alloc (.cells #[.int .u64 0, .int .u64 al] 54)).alloc (.cells #[.int .u64 xh, .int .u64 xl] 54)).frozen? ⟨w.heap.size + 1 + 1, 0, none⟩ = false := kf _ _ (two _ _ _) u4 uf0
  have vf1 : ((w2.alloc (.cells #[.int .u64 0, .int .u64 al] 54)).alloc (.cells #[.int .u64 xh, .int .u64 xl] 54)).frozen? ⟨w.heap.size + 1 + 1, 1, none⟩ = false := kf _ _ (two _ _ _) u5 uf1
  have vg0 : ((w2.alloc (.cells #[.int .u64 0, .int .u64 al] 54)).alloc (.cells #[.int .u64 xh, .int .u64 xl] 54)).cell? ⟨bg, 0, none⟩ = some (.int .u64 gh) := kc _ _ (two _ _ _) ug0
  have vg1 : ((w2.alloc (.cells #[.int .u64 0, .int .u64 al] 54)).alloc (.cells #[.int .u64 xh, .int .u64 xl] 54)).cell? ⟨bg, 1, none⟩ = some (.int .u64 gl) := kc _ _ (two _ _ _) ug1
  have vn0 : ((w2.alloc (.cells #[.int .u64 0, .int .u64 al] 54)).alloc (.cells #[.int .u64 xh, .int .u64 xl] 54)).cell? ⟨w2.heap.size, 0, none⟩ = some (.int .u64 0) := newC3 w2 _ _ _ 0
  have vn1 : ((w2.alloc (.cells #[.int .u64 0, .int .u64 al] 54)).alloc (.cells #[.int .u64 xh, .int .u64 xl] 54)).cell? ⟨w2.heap.size, 1, none⟩ = some (.int .u64 al) := newC3 w2 _ _ _ 1
  have hB3 : Below w.heap.size w ((w2.alloc (.cells #[.int .u64 0, .int .u64 al] 54)).alloc (.cells #[.int .u64 xh, .int .u64 xl] 54)) := beyond hB2 (two _ _ _)
  clear u0 u1 u2 u3 u4 u5 uf0 uf1 ug0 ug1 hB2
  generalize ((w2.alloc (.cells #[.int .u64 0, .int .u64 al] 54)).alloc (.cells #[.int .u64 xh, .int .u64 xl] 54)) = W2 at *
  generalize w2.heap.size = bn at *
  go_wp2_with fail
  refine (HD2.out _).mono ?_
  rintro e w3 ⟨rfl, hb⟩
  have u4 := kc _ _ hb v4
  have u5 := kc _ _ hb v5
  have uf0 := kf _ _ hb v4 vf0
  have uf1 := kf _ _ hb v5 vf1
  have un0 := kc _ _ hb vn0
  have un1 := kc _ _ hb vn1
  have hB4 : Below w.heap.size w w3 := beyond hB3 hb
  clear hb v0 v1 v2 v3 v4 v5 vf0 vf1 vg0 vg1 vn0 vn1 hB3 HD2 hq
  go_upto_region 6 with (fail)
  have x4 : ((w3.alloc (.cells #[.int .u64 bh, .int .u64 bl] 54)).alloc (.cells #[.int .u64 yh, .int .u64 yl] 54)).cell? ⟨w.heap.size + 1 + 1, 0, none⟩ = some (.int .i64 0) := kc _ _ (two _ _ _) u4
  have x5 : ((w3.alloc (.cells #[.int .u64 bh, .int .u64 bl] 54)).alloc (.cells #[.int .u64 yh, .int .u64 yl] 54)).cell? ⟨w.heap.size + 1 + 1, 1, none⟩ = some (.int .i64 0) := kc _ _ (two _ _ _) u5
  have xf0 : ((w3.alloc (.cells #[.int .u64 bh, .int .u64 bl] 54)).alloc (.cells #[.int .u64 yh, .int .u64 yl] 54)).frozen? ⟨w.heap.size + 1 + 1, 0, none⟩ = false := kf _ _ (two _ _ _) u4 uf0
  have xf1 : ((w3.alloc (.cells #[.int .u64 bh, .int .u64 bl] 54)).alloc (.cells #[.int .u64 yh, .int .u64 yl] 54)).frozen? ⟨w.heap.size + 1 + 1, 1, none⟩ = false := kf _ _ (two _ _ _) u5 uf1
  have xn0 : ((w3.alloc (.cells #[.int .u64 bh, .int .u64 bl] 54)).alloc (.cells #[.int .u64 yh, .int .u64 yl] 54)).cell? ⟨bn, 0, none⟩ = some (.int .u64 0) := kc _ _ (two _ _ _) un0
  have xn1 : ((w3.alloc (.cells #[.int .u64 bh, .int .u64 bl] 54)).alloc (.cells #[.int .u64 yh, .int .u64 yl] 54)).cell? ⟨bn, 1, none⟩ = some (.int .u64 al) := kc _ _ (two _ _ _) un1
  have xd0 : ((w3.alloc (.cells #[.int .u64 bh, .int .u64 bl] 54)).alloc (.cells #[.int .u64 yh, .int .u64 yl] 54)).cell? ⟨w3.heap.size, 0, none⟩ = some (.int .u64 bh) := newC3 w3 _ _ _ 0
  have xd1 : ((w3.alloc (.cells #[.int .u64 bh, .int .u64 bl] 54)).alloc (.cells #[.int .u64 yh, .int .u64 yl] 54)).cell? ⟨w3.heap.size, 1, none⟩ = some (.int .u64 bl) := newC3 w3 _ _ _ 1
  have hB5 : Below w.heap.size w ((w3.alloc (.cells #[.int .u64 bh, .int .u64 bl] 54)).alloc (.cells #[.int .u64 yh, .int .u64 yl] 54)) := beyond hB4 (two _ _ _)
  clear u4 u5 uf0 uf1 un0 un1 hB4
  generalize ((w3.alloc (.cells #[.int .u64 bh, .int .u64 bl] 54)).alloc (.cells #[.int .u64 yh, .int .u64 yl] 54)) = W3 at *
  generalize w3.heap.size = bd at *
  have y4 : ∀ O, (W3.alloc O).cell? ⟨w.heap.size + 1 + 1, 0, none⟩ = some (.int .i64 0) := fun O => kc _ _ (single _ _) x4
  have y5 : ∀ O, (W3.alloc O).cell? ⟨w.heap.size + 1 + 1, 1, none⟩ = some (.int .i64 0) := fun O => kc _ _ (single _ _) x5
  have yn0 : ∀ O, (W3.alloc O).cell? ⟨bn, 0, none⟩ = some (.int .u64 0) := fun O => kc _ _ (single _ _) xn0
  have yn1 : ∀ O, (W3.alloc O).cell? ⟨bn, 1, none⟩ = some (.int .u64 al) := fun O => kc _ _ (single _ _) xn1
  have yf0 : ∀ O, (W3.alloc O).frozen? ⟨w.heap.size + 1 + 1, 0, none⟩ = false := fun O => kf _ _ (single _ _) x4 xf0
  have yf1 : ∀ O, (W3.alloc O).frozen? ⟨w.heap.size + 1 + 1, 1, none⟩ = false := fun O => kf _ _ (single _ _) x5 xf1
  have l3 : w.heap.size + 1 + 1 < W3.heap.size := World.block_lt_of_cell? _ _ x4
  have l4 : bn < W3.heap.size := World.block_lt_of_cell? _ _ xn0
  have m1 : ¬ W3.heap.size = w.heap.size + 1 + 1 := by omega
  have m2 : ¬ w.heap.size + 1 + 1 = W3.heap.size := by omega
  have m3 : ¬ W3.heap.size = bn := by omega
  have m4 : ¬ bn = W3.heap.size := by omega
  have HB6 := hideR (show ∀ O, Below w.heap.size w (W3.alloc O) from fun O => beyond hB5 (single _ _))
  have HB5 := hideR hB5
  clear l1 l3 l4 hB5
  go_wp2_with fail
  refine bodyPost_ret (v := trip (0, 0, 20)) (by simp [results, Tryd.results38, go_sem, *]) rfl ⟨rfl, ?_⟩
  first | exact set2 HB5.out (by omega) _ _ | exact set2 (HB6.out _) (by omega) _ _ | exact HB5.out | (refine set2 (Below.setCell (HB6.out _) ?_ _) (by omega) _ _; have := (HB6.out default).size; simp at this; omega) | trace_state
set_option maxRecDepth 100000 in
set_option maxHeartbeats 8000000 in
theorem xheld_h_false_f4 (ph pl qh ql gh gl al bl xh xl yh yl : Int) (w : World) (hq : ¬ qh = 0) (e2 : ¬ 9223372036854775807 < al) (hc : 9223372036854775807 < bl)
    (HC : Hid (∀ w, Calls Tryd.prog 42 #[.agg #[.int .u64 ph, .int .u64 pl], .agg #[.int .u64 qh, .int .u64 ql]] w fun e w' => e = .returned (.agg #[.int .u64 gh, .int .u64 gl]) ∧ Below w.heap.size w w'))
    (HD1 : Hid (∀ w, Calls Tryd.prog 65 #[.agg #[.int .u64 ph, .int .u64 pl], .agg #[.int .u64 gh, .int .u64 gl]] w fun e w' => e = .returned (.tuple #[.agg #[.int .u64 0, .int .u64 al], .agg #[.int .u64 xh, .int .u64 xl]]) ∧ Below w.heap.size w w'))
    (HD2 : Hid (∀ w, Calls Tryd.prog 65 #[.agg #[.int .u64 qh, .int .u64 ql], .agg #[.int .u64 gh, .int .u64 gl]] w fun e w' => e = .returned (.tuple #[.agg #[.int .u64 0, .int .u64 bl], .agg #[.int .u64 yh, .int .u64 yl]]) ∧ Below w.heap.size w w')) :
    Calls Tryd.prog 38 #[.bool false, .agg #[.int .u64 ph, .int .u64 pl], .agg #[.int .u64 qh, .int .u64 ql]] w fun e w' => e = .returned (trip (0, 0, 20)) ∧ Below w.heap.size w w' := by
  have n1 : ¬ w.heap.size = w.heap.size + 1 + 1 := by omega
  have n2 : ¬ w.heap.size + 1 + 1 = w.heap.size := by omega
  go_enter Tryd.func38, Tryd.ntmps38
  go_wp2_with fail
  refine (HC.out _).mono ?_
  rintro e w1 ⟨rfl, hb⟩
  have s0 := kc ⟨w.heap.size, 0, none⟩ (.int .u64 ph) hb (by first | assumption | simp [go_sem, *])
  have s1 := kc ⟨w.heap.size, 1, none⟩ (.int .u64 pl) hb (by first | assumption | simp [go_sem, *])
  have s2 := kc ⟨w.heap.size + 1, 0, none⟩ (.int .u64 qh) hb (by first | assumption | simp [go_sem, *])
  have s3 := kc ⟨w.heap.size + 1, 1, none⟩ (.int .u64 ql) hb (by first | assumption | simp [go_sem, *])
  have s4 := kc ⟨w.heap.size + 1 + 1, 0, none⟩ (.int .i64 0) hb (by first | assumption | simp [go_sem, *])
  have s5 := kc ⟨w.heap.size + 1 + 1, 1, none⟩ (.int .i64 0) hb (by first | assumption | simp [go_sem, *])
  have sf0 := kf ⟨w.heap.size + 1 + 1, 0, none⟩ (.int .i64 0) hb (by first | assumption | simp [go_sem, *]) (by first | assumption | simp [go_sem, *])
  have sf1 := kf ⟨w.heap.size + 1 + 1, 1, none⟩ (.int .i64 0) hb (by first | assumption | simp [go_sem, *]) (by first | assumption | simp [go_sem, *])
  have hB1 : Below w.heap.size w w1 := beyond (three w _ _ _) hb
  clear hb
  have l1 : w.heap.size + 1 + 1 < w1.heap.size := World.block_lt_of_cell? _ _ s4
  go_upto_region 4 with (fail)
  have t0 : (w1.alloc (.cells #[.int .u64 gh, .int .u64 gl] 54)).cell? ⟨w.heap.size, 0, none⟩ = some (.int .u64 ph) := kc _ _ (single _ _) s0
  have t1 : (w1.alloc (.cells #[.int .u64 gh, .int .u64 gl] 54)).cell? ⟨w.heap.size, 1, none⟩ = some (.int .u64 pl) := kc _ _ (single _ _) s1
  have t2 : (w1.alloc (.cells #[.int .u64 gh, .int .u64 gl] 54)).cell? ⟨w.heap.size + 1, 0, none⟩ = some (.int .u64 qh) := kc _ _ (single _ _) s2
  have t3 : (w1.alloc (.cells #[.int .u64 gh, .int .u64 gl] 54)).cell? ⟨w.heap.size + 1, 1, none⟩ = some (.int .u64 ql) := kc _ _ (single _ _) s3
  have t4 : (w1.alloc (.cells #[.int .u64 gh, .int .u64 gl] 54)).cell? ⟨w.heap.size + 1 + 1, 0, none⟩ = some (.int .i64 0) := kc _ _ (single _ _) s4
  have t5 : (w1.alloc (.cells #[.int .u64 gh, .int .u64 gl] 54)).cell? ⟨w.heap.size + 1 + 1, 1, none⟩ = some (.int .i64 0) := kc _ _ (single _ _) s5
  have tf0 : (w1.alloc (.cells #[.int .u64 gh, .int .u64 gl] 54)).frozen? ⟨w.heap.size + 1 + 1, 0, none⟩ = false := kf _ _ (single _ _) s4 sf0
  have tf1 : (w1.alloc (.cells #[.int .u64 gh, .int .u64 gl] 54)).frozen? ⟨w.heap.size + 1 + 1, 1, none⟩ = false := kf _ _ (single _ _) s5 sf1
  have tg0 : (w1.alloc (.cells #[.int .u64 gh, .int .u64 gl] 54)).cell? ⟨w1.heap.size, 0, none⟩ = some (.int .u64 gh) := new_cell w1 _ _ 0
  have tg1 : (w1.alloc (.cells #[.int .u64 gh, .int .u64 gl] 54)).cell? ⟨w1.heap.size, 1, none⟩ = some (.int .u64 gl) := new_cell w1 _ _ 1
  have hBG : Below w.heap.size w (w1.alloc (.cells #[.int .u64 gh, .int .u64 gl] 54)) := beyond hB1 (single _ _)
  clear s0 s1 s2 s3 s4 s5 sf0 sf1 hB1 HC
  generalize (w1.alloc (.cells #[.int .u64 gh, .int .u64 gl] 54)) = W1 at *
  generalize w1.heap.size = bg at *
  go_wp2_with fail
  refine (HD1.out _).mono ?_
  rintro e w2 ⟨rfl, hb⟩
  have u0 := kc _ _ hb t0
  have u1 := kc _ _ hb t1
  have u2 := kc _ _ hb t2
  have u3 := kc _ _ hb t3
  have u4 := kc _ _ hb t4
  have u5 := kc _ _ hb t5
  have uf0 := kf _ _ hb t4 tf0
  have uf1 := kf _ _ hb t5 tf1
  have ug0 := kc _ _ hb tg0
  have ug1 := kc _ _ hb tg1
  have hB2 : Below w.heap.size w w2 := beyond hBG hb
  clear hb t0 t1 t2 t3 t4 t5 tf0 tf1 tg0 tg1 hBG HD1
  go_upto_region 5 with (fail)
  have v0 : ((w2.alloc (.cells #[.int .u64 0, .int .u64 al] 54)).alloc (.cells #[.int .u64 xh, .int .u64 xl] 54)).cell? ⟨w.heap.size, 0, none⟩ = some (.int .u64 ph) := kc _ _ (two _ _ _) u0
  have v1 : ((w2.alloc (.cells #[.int .u64 0, .int .u64 al] 54)).alloc (.cells #[.int .u64 xh, .int .u64 xl] 54)).cell? ⟨w.heap.size, 1, none⟩ = some (.int .u64 pl) := kc _ _ (two _ _ _) u1
  have v2 : ((w2.alloc (.cells #[.int .u64 0, .int .u64 al] 54)).alloc (.cells #[.int .u64 xh, .int .u64 xl] 54)).cell? ⟨w.heap.size + 1, 0, none⟩ = some (.int .u64 qh) := kc _ _ (two _ _ _) u2
  have v3 : ((w2.alloc (.cells #[.int .u64 0, .int .u64 al] 54)).alloc (.cells #[.int .u64 xh, .int .u64 xl] 54)).cell? ⟨w.heap.size + 1, 1, none⟩ = some (.int .u64 ql) := kc _ _ (two _ _ _) u3
  have v4 : ((w2.alloc (.cells #[.int .u64 0, .int .u64 al] 54)).alloc (.cells #[.int .u64 xh, .int .u64 xl] 54)).cell? ⟨w.heap.size + 1 + 1, 0, none⟩ = some (.int .i64 0) := kc _ _ (two _ _ _) u4
  have v5 : ((w2.alloc (.cells #[.int .u64 0, .int .u64 al] 54)).alloc (.cells #[.int .u64 xh, .int .u64 xl] 54)).cell? ⟨w.heap.size + 1 + 1, 1, none⟩ = some (.int .i64 0) := kc _ _ (two _ _ _) u5
  have vf0 : ((w2.alloc (.cells #[.int .u64 0, .int .u64 al] 54)).alloc (.cells #[.int .u64 xh, .int .u64 xl] 54)).frozen? ⟨w.heap.size + 1 + 1, 0, none⟩ = false := kf _ _ (two _ _ _) u4 uf0
  have vf1 : ((w2.alloc (.cells #[.int .u64 0, .int .u64 al] 54)).alloc (.cells #[.int .u64 xh, .int .u64 xl] 54)).frozen? ⟨w.heap.size + 1 + 1, 1, none⟩ = false := kf _ _ (two _ _ _) u5 uf1
  have vg0 : ((w2.alloc (.cells #[.int .u64 0, .int .u64 al] 54)).alloc (.cells #[.int .u64 xh, .int .u64 xl] 54)).cell? ⟨bg, 0, none⟩ = some (.int .u64 gh) := kc _ _ (two _ _ _) ug0
  have vg1 : ((w2.alloc (.cells #[.int .u64 0, .int .u64 al] 54)).alloc (.cells #[.int .u64 xh, .int .u64 xl] 54)).cell? ⟨bg, 1, none⟩ = some (.int .u64 gl) := kc _ _ (two _ _ _) ug1
  have vn0 : ((w2.alloc (.cells #[.int .u64 0, .int .u64 al] 54)).alloc (.cells #[.int .u64 xh, .int .u64 xl] 54)).cell? ⟨w2.heap.size, 0, none⟩ = some (.int .u64 0) := newC3 w2 _ _ _ 0
  have vn1 : ((w2.alloc (.cells #[.int .u64 0, .int .u64 al] 54)).alloc (.cells #[.int .u64 xh, .int .u64 xl] 54)).cell? ⟨w2.heap.size, 1, none⟩ = some (.int .u64 al) := newC3 w2 _ _ _ 1
  have hB3 : Below w.heap.size w ((w2.alloc (.cells #[.int .u64 0, .int .u64 al] 54)).alloc (.cells #[.int .u64 xh, .int .u64 xl] 54)) := beyond hB2 (two _ _ _)
  clear u0 u1 u2 u3 u4 u5 uf0 uf1 ug0 ug1 hB2
  generalize ((w2.alloc (.cells #[.int .u64 0, .int .u64 al] 54)).alloc (.cells #[.int .u64 xh, .int .u64 xl] 54)) = W2 at *
  generalize w2.heap.size = bn at *
  go_wp2_with fail
  refine (HD2.out _).mono ?_
  rintro e w3 ⟨rfl, hb⟩
  have u4 := kc _ _ hb v4
  have u5 := kc _ _ hb v5
  have uf0 := kf _ _ hb v4 vf0
  have uf1 := kf _ _ hb v5 vf1
  have un0 := kc _ _ hb vn0
  have un1 := kc _ _ hb vn1
  have hB4 : Below w.heap.size w w3 := beyond hB3 hb
  clear hb v0 v1 v2 v3 v4 v5 vf0 vf1 vg0 vg1 vn0 vn1 hB3 HD2 hq
  go_upto_region 6 with (fail)
  have x4 : ((w3.alloc (.cells #[.int .u64 0, .int .u64 bl] 54)).alloc (.cells #[.int .u64 yh, .int .u64 yl] 54)).cell? ⟨w.heap.size + 1 + 1, 0, none⟩ = some (.int .i64 0) := kc _ _ (two _ _ _) u4
  have x5 : ((w3.alloc (.cells #[.int .u64 0, .int .u64 bl] 54)).alloc (.cells #[.int .u64 yh, .int .u64 yl] 54)).cell? ⟨w.heap.size + 1 + 1, 1, none⟩ = some (.int .i64 0) := kc _ _ (two _ _ _) u5
  have xf0 : ((w3.alloc (.cells #[.int .u64 0, .int .u64 bl] 54)).alloc (.cells #[.int .u64 yh, .int .u64 yl] 54)).frozen? ⟨w.heap.size + 1 + 1, 0, none⟩ = false := kf _ _ (two _ _ _) u4 uf0
  have xf1 : ((w3.alloc (.cells #[.int .u64 0, .int .u64 bl] 54)).alloc (.cells #[.int .u64 yh, .int .u64 yl] 54)).frozen? ⟨w.heap.size + 1 + 1, 1, none⟩ = false := kf _ _ (two _ _ _) u5 uf1
  have xn0 : ((w3.alloc (.cells #[.int .u64 0, .int .u64 bl] 54)).alloc (.cells #[.int .u64 yh, .int .u64 yl] 54)).cell? ⟨bn, 0, none⟩ = some (.int .u64 0) := kc _ _ (two _ _ _) un0
  have xn1 : ((w3.alloc (.cells #[.int .u64 0, .int .u64 bl] 54)).alloc (.cells #[.int .u64 yh, .int .u64 yl] 54)).cell? ⟨bn, 1, none⟩ = some (.int .u64 al) := kc _ _ (two _ _ _) un1
  have xd0 : ((w3.alloc (.cells #[.int .u64 0, .int .u64 bl] 54)).alloc (.cells #[.int .u64 yh, .int .u64 yl] 54)).cell? ⟨w3.heap.size, 0, none⟩ = some (.int .u64 0) := newC3 w3 _ _ _ 0
  have xd1 : ((w3.alloc (.cells #[.int .u64 0, .int .u64 bl] 54)).alloc (.cells #[.int .u64 yh, .int .u64 yl] 54)).cell? ⟨w3.heap.size, 1, none⟩ = some (.int .u64 bl) := newC3 w3 _ _ _ 1
  have hB5 : Below w.heap.size w ((w3.alloc (.cells #[.int .u64 0, .int .u64 bl] 54)).alloc (.cells #[.int .u64 yh, .int .u64 yl] 54)) := beyond hB4 (two _ _ _)
  clear u4 u5 uf0 uf1 un0 un1 hB4
  generalize ((w3.alloc (.cells #[.int .u64 0, .int .u64 bl] 54)).alloc (.cells #[.int .u64 yh, .int .u64 yl] 54)) = W3 at *
  generalize w3.heap.size = bd at *
  have y4 : ∀ O, (W3.alloc O).cell? ⟨w.heap.size + 1 + 1, 0, none⟩ = some (.int .i64 0) := fun O => kc _ _ (single _ _) x4
  have y5 : ∀ O, (W3.alloc O).cell? ⟨w.heap.size + 1 + 1, 1, none⟩ = some (.int .i64 0) := fun O => kc _ _ (single _ _) x5
  have yn0 : ∀ O, (W3.alloc O).cell? ⟨bn, 0, none⟩ = some (.int .u64 0) := fun O => kc _ _ (single _ _) xn0
  have yn1 : ∀ O, (W3.alloc O).cell? ⟨bn, 1, none⟩ = some (.int .u64 al) := fun O => kc _ _ (single _ _) xn1
  have yf0 : ∀ O, (W3.alloc O).frozen? ⟨w.heap.size + 1 + 1, 0, none⟩ = false := fun O => kf _ _ (single _ _) x4 xf0
  have yf1 : ∀ O, (W3.alloc O).frozen? ⟨w.heap.size + 1 + 1, 1, none⟩ = false := fun O => kf _ _ (single _ _) x5 xf1
  have l3 : w.heap.size + 1 + 1 < W3.heap.size := World.block_lt_of_cell? _ _ x4
  have l4 : bn < W3.heap.size := World.block_lt_of_cell? _ _ xn0
  have m1 : ¬ W3.heap.size = w.heap.size + 1 + 1 := by omega
  have m2 : ¬ w.heap.size + 1 + 1 = W3.heap.size := by omega
  have m3 : ¬ W3.heap.size = bn := by omega
  have m4 : ¬ bn = W3.heap.size := by omega
  have HB6 := hideR (show ∀ O, Below w.heap.size w (W3.alloc O) from fun O => beyond hB5 (single _ _))
  have HB5 := hideR hB5
  clear l1 l3 l4 hB5
  go_wp2_with fail
  refine bodyPost_ret (v := trip (0, 0, 20)) (by simp [results, Tryd.results38, go_sem, *]) rfl ⟨rfl, ?_⟩
  first | exact set2 HB5.out (by omega) _ _ | exact set2 (HB6.out _) (by omega) _ _ | exact HB5.out | (refine set2 (Below.setCell (HB6.out _) ?_ _) (by omega) _ _; have := (HB6.out default).size; simp at this; omega) | trace_state
set_option maxRecDepth 100000 in
set_option maxHeartbeats 8000000 in
theorem xheld_h_false_ok (ph pl qh ql gh gl al bl xh xl yh yl : Int) (w : World) (hq : ¬ qh = 0) (nn : Int) (e2 : ¬ 9223372036854775807 < al) (hc : ¬ 9223372036854775807 < bl) (z1 : IntKind.i64.wrap bl = bl) (z2 : IntKind.i64.wrap al = nn)
    (HC : Hid (∀ w, Calls Tryd.prog 42 #[.agg #[.int .u64 ph, .int .u64 pl], .agg #[.int .u64 qh, .int .u64 ql]] w fun e w' => e = .returned (.agg #[.int .u64 gh, .int .u64 gl]) ∧ Below w.heap.size w w'))
    (HD1 : Hid (∀ w, Calls Tryd.prog 65 #[.agg #[.int .u64 ph, .int .u64 pl], .agg #[.int .u64 gh, .int .u64 gl]] w fun e w' => e = .returned (.tuple #[.agg #[.int .u64 0, .int .u64 al], .agg #[.int .u64 xh, .int .u64 xl]]) ∧ Below w.heap.size w w'))
    (HD2 : Hid (∀ w, Calls Tryd.prog 65 #[.agg #[.int .u64 qh, .int .u64 ql], .agg #[.int .u64 gh, .int .u64 gl]] w fun e w' => e = .returned (.tuple #[.agg #[.int .u64 0, .int .u64 bl], .agg #[.int .u64 yh, .int .u64 yl]]) ∧ Below w.heap.size w w')) :
    Calls Tryd.prog 38 #[.bool false, .agg #[.int .u64 ph, .int .u64 pl], .agg #[.int .u64 qh, .int .u64 ql]] w fun e w' => e = .returned (trip (nn, bl, 0)) ∧ Below w.heap.size w w' := by
  have n1 : ¬ w.heap.size = w.heap.size + 1 + 1 := by omega
  have n2 : ¬ w.heap.size + 1 + 1 = w.heap.size := by omega
  go_enter Tryd.func38, Tryd.ntmps38
  go_wp2_with fail
  refine (HC.out _).mono ?_
  rintro e w1 ⟨rfl, hb⟩
  have s0 := kc ⟨w.heap.size, 0, none⟩ (.int .u64 ph) hb (by first | assumption | simp [go_sem, *])
  have s1 := kc ⟨w.heap.size, 1, none⟩ (.int .u64 pl) hb (by first | assumption | simp [go_sem, *])
  have s2 := kc ⟨w.heap.size + 1, 0, none⟩ (.int .u64 qh) hb (by first | assumption | simp [go_sem, *])
  have s3 := kc ⟨w.heap.size + 1, 1, none⟩ (.int .u64 ql) hb (by first | assumption | simp [go_sem, *])
  have s4 := kc ⟨w.heap.size + 1 + 1, 0, none⟩ (.int .i64 0) hb (by first | assumption | simp [go_sem, *])
  have s5 := kc ⟨w.heap.size + 1 + 1, 1, none⟩ (.int .i64 0) hb (by first | assumption | simp [go_sem, *])
  have sf0 := kf ⟨w.heap.size + 1 + 1, 0, none⟩ (.int .i64 0) hb (by first | assumption | simp [go_sem, *]) (by first | assumption | simp [go_sem, *])
  have sf1 := kf ⟨w.heap.size + 1 + 1, 1, none⟩ (.int .i64 0) hb (by first | assumption | simp [go_sem, *]) (by first | assumption | simp [go_sem, *])
  have hB1 : Below w.heap.size w w1 := beyond (three w _ _ _) hb
  clear hb
  have l1 : w.heap.size + 1 + 1 < w1.heap.size := World.block_lt_of_cell? _ _ s4
  go_upto_region 4 with (fail)
  have t0 : (w1.alloc (.cells #[.int .u64 gh, .int .u64 gl] 54)).cell? ⟨w.heap.size, 0, none⟩ = some (.int .u64 ph) := kc _ _ (single _ _) s0
  have t1 : (w1.alloc (.cells #[.int .u64 gh, .int .u64 gl] 54)).cell? ⟨w.heap.size, 1, none⟩ = some (.int .u64 pl) := kc _ _ (single _ _) s1
  have t2 : (w1.alloc (.cells #[.int .u64 gh, .int .u64 gl] 54)).cell? ⟨w.heap.size + 1, 0, none⟩ = some (.int .u64 qh) := kc _ _ (single _ _) s2
  have t3 : (w1.alloc (.cells #[.int .u64 gh, .int .u64 gl] 54)).cell? ⟨w.heap.size + 1, 1, none⟩ = some (.int .u64 ql) := kc _ _ (single _ _) s3
  have t4 : (w1.alloc (.cells #[.int .u64 gh, .int .u64 gl] 54)).cell? ⟨w.heap.size + 1 + 1, 0, none⟩ = some (.int .i64 0) := kc _ _ (single _ _) s4
  have t5 : (w1.alloc (.cells #[.int .u64 gh, .int .u64 gl] 54)).cell? ⟨w.heap.size + 1 + 1, 1, none⟩ = some (.int .i64 0) := kc _ _ (single _ _) s5
  have tf0 : (w1.alloc (.cells #[.int .u64 gh, .int .u64 gl] 54)).frozen? ⟨w.heap.size + 1 + 1, 0, none⟩ = false := kf _ _ (single _ _) s4 sf0
  have tf1 : (w1.alloc (.cells #[.int .u64 gh, .int .u64 gl] 54)).frozen? ⟨w.heap.size + 1 + 1, 1, none⟩ = false := kf _ _ (single _ _) s5 sf1
  have tg0 : (w1.alloc (.cells #[.int .u64 gh, .int .u64 gl] 54)).cell? ⟨w1.heap.size, 0, none⟩ = some (.int .u64 gh) := new_cell w1 _ _ 0
  have tg1 : (w1.alloc (.cells #[.int .u64 gh, .int .u64 gl] 54)).cell? ⟨w1.heap.size, 1, none⟩ = some (.int .u64 gl) := new_cell w1 _ _ 1
  have hBG : Below w.heap.size w (w1.alloc (.cells #[.int .u64 gh, .int .u64 gl] 54)) := beyond hB1 (single _ _)
  clear s0 s1 s2 s3 s4 s5 sf0 sf1 hB1 HC
  generalize (w1.alloc (.cells #[.int .u64 gh, .int .u64 gl] 54)) = W1 at *
  generalize w1.heap.size = bg at *
  go_wp2_with fail
  refine (HD1.out _).mono ?_
  rintro e w2 ⟨rfl, hb⟩
  have u0 := kc _ _ hb t0
  have u1 := kc _ _ hb t1
  have u2 := kc _ _ hb t2
  have u3 := kc _ _ hb t3
  have u4 := kc _ _ hb t4
  have u5 := kc _ _ hb t5
  have uf0 := kf _ _ hb t4 tf0
  have uf1 := kf _ _ hb t5 tf1
  have ug0 := kc _ _ hb tg0
  have ug1 := kc _ _ hb tg1
  have hB2 : Below w.heap.size w w2 := beyond hBG hb
  clear hb t0 t1 t2 t3 t4 t5 tf0 tf1 tg0 tg1 hBG HD1
  go_upto_region 5 with (fail)
  have v0 : ((w2.alloc (.cells #[.int .u64 0, .int .u64 al] 54)).alloc (.cells #[.int .u64 xh, .int .u64 xl] 54)).cell? ⟨w.heap.size, 0, none⟩ = some (.int .u64 ph) := kc _ _ (two _ _ _) u0
  have v1 : ((w2.alloc (.cells #[.int .u64 0, .int .u64 al] 54)).alloc (.cells #[.int .u64 xh, .int .u64 xl] 54)).cell? ⟨w.heap.size, 1, none⟩ = some (.int .u64 pl) := kc _ _ (two _ _ _) u1
  have v2 : ((w2.alloc (.cells #[.int .u64 0, .int .u64 al] 54)).alloc (.cells #[.int .u64 xh, .int .u64 xl] 54)).cell? ⟨w.heap.size + 1, 0, none⟩ = some (.int .u64 qh) := kc _ _ (two _ _ _) u2
  have v3 : ((w2.alloc (.cells #[.int .u64 0, .int .u64 al] 54)).alloc (.cells #[.int .u64 xh, .int .u64 xl] 54)).cell? ⟨w.heap.size + 1, 1, none⟩ = some (.int .u64 ql) := kc _ _ (two _ _ _) u3
  have v4 : ((w2.alloc (.cells #[.int .u64 0, .int .u64 al] 54)).alloc (.cells #[.int .u64 xh, .int .u64 xl] 54)).cell? ⟨w.heap.size + 1 + 1, 0, none⟩ = some (.int .i64 0) := kc _ _ (two _ _ _) u4
  have v5 : ((w2.alloc (.cells #[.int .u64 0, .int .u64 al] 54)).alloc (.cells #[.int .u64 xh, .int .u64 xl] 54)).cell? ⟨w.heap.size + 1 + 1, 1, none⟩ = some (.int .i64 0) := kc _ _ (two _ _ _) u5
  have vf0 : ((w2.alloc (.cells #[.int .u64 0, .int .u64 al] 54)).alloc (.cells #[.int .u64 xh, .int .u64 xl] 54)).frozen? ⟨w.heap.size + 1 + 1, 0, none⟩ = false := kf _ _ (two _ _ _) u4 uf0
  have vf1 : ((w2.alloc (.cells #[.int .u64 0, .int .u64 al] 54)).alloc (.cells #[.int .u64 xh, .int .u64 xl] 54)).frozen? ⟨w.heap.size + 1 + 1, 1, none⟩ = false := kf _ _ (two _ _ _) u5 uf1
  have vg0 : ((w2.alloc (.cells #[.int .u64 0, .int .u64 al] 54)).alloc (.cells #[.int .u64 xh, .int .u64 xl] 54)).cell? ⟨bg, 0, none⟩ = some (.int .u64 gh) := kc _ _ (two _ _ _) ug0
  have vg1 : ((w2.alloc (.cells #[.int .u64 0, .int .u64 al] 54)).alloc (.cells #[.int .u64 xh, .int .u64 xl] 54)).cell? ⟨bg, 1, none⟩ = some (.int .u64 gl) := kc _ _ (two _ _ _) ug1
  have vn0 : ((w2.alloc (.cells #[.int .u64 0, .int .u64 al] 54)).alloc (.cells #[.int .u64 xh, .int .u64 xl] 54)).cell? ⟨w2.heap.size, 0, none⟩ = some (.int .u64 0) := newC3 w2 _ _ _ 0
  have vn1 : ((w2.alloc (.cells #[.int .u64 0, .int .u64 al] 54)).alloc (.cells #[.int .u64 xh, .int .u64 xl] 54)).cell? ⟨w2.heap.size, 1, none⟩ = some (.int .u64 al) := newC3 w2 _ _ _ 1
  have hB3 : Below w.heap.size w ((w2.alloc (.cells #[.int .u64 0, .int .u64 al] 54)).alloc (.cells #[.int .u64 xh, .int .u64 xl] 54)) := beyond hB2 (two _ _ _)
  clear u0 u1 u2 u3 u4 u5 uf0 uf1 ug0 ug1 hB2
  generalize ((w2.alloc (.cells #[.int .u64 0, .int .u64 al] 54)).alloc (.cells #[.int .u64 xh, .int .u64 xl] 54)) = W2 at *
  generalize w2.heap.size = bn at *
  go_wp2_with fail
  refine (HD2.out _).mono ?_
  rintro e w3 ⟨rfl, hb⟩
  have u4 := kc _ _ hb v4
  have u5 := kc _ _ hb v5
  have uf0 := kf _ _ hb v4 vf0
  have uf1 := kf _ _ hb v5 vf1
  have un0 := kc _ _ hb vn0
  have un1 := kc _ _ hb vn1
  have hB4 : Below w.heap.size w w3 := beyond hB3 hb
  clear hb v0 v1 v2 v3 v4 v5 vf0 vf1 vg0 vg1 vn0 vn1 hB3 HD2 hq
  go_upto_region 6 with (fail)
  have x4 : ((w3.alloc (.cells #[.int .u64 0, .int .u64 bl] 54)).alloc (.cells #[.int .u64 yh, .int .u64 yl] 54)).cell? ⟨w.heap.size + 1 + 1, 0, none⟩ = some (.int .i64 0) := kc _ _ (two _ _ _) u4
  have x5 : ((w3.alloc (.cells #[.int .u64 0, .int .u64 bl] 54)).alloc (.cells #[.int .u64 yh, .int .u64 yl] 54)).cell? ⟨w.heap.size + 1 + 1, 1, none⟩ = some (.int .i64 0) := kc _ _ (two _ _ _) u5
  have xf0 : ((w3.alloc (.cells #[.int .u64 0, .int .u64 bl] 54)).alloc (.cells #[.int .u64 yh, .int .u64 yl] 54)).frozen? ⟨w.heap.size + 1 + 1, 0, none⟩ = false := kf _ _ (two _ _ _) u4 uf0
  have xf1 : ((w3.alloc (.cells #[.int .u64 0, .int .u64 bl] 54)).alloc (.cells #[.int .u64 yh, .int .u64 yl] 54)).frozen? ⟨w.heap.size + 1 + 1, 1, none⟩ = false := kf _ _ (two _ _ _) u5 uf1
  have xn0 : ((w3.alloc (.cells #[.int .u64 0, .int .u64 bl] 54)).alloc (.cells #[.int .u64 yh, .int .u64 yl] 54)).cell? ⟨bn, 0, none⟩ = some (.int .u64 0) := kc _ _ (two _ _ _) un0
  have xn1 : ((w3.alloc (.cells #[.int .u64 0, .int .u64 bl] 54)).alloc (.cells #[.int .u64 yh, .int .u64 yl] 54)).cell? ⟨bn, 1, none⟩ = some (.int .u64 al) := kc _ _ (two _ _ _) un1
  have xd0 : ((w3.alloc (.cells #[.int .u64 0, .int .u64 bl] 54)).alloc (.cells #[.int .u64 yh, .int .u64 yl] 54)).cell? ⟨w3.heap.size, 0, none⟩ = some (.int .u64 0) := newC3 w3 _ _ _ 0
  have xd1 : ((w3.alloc (.cells #[.int .u64 0, .int .u64 bl] 54)).alloc (.cells #[.int .u64 yh, .int .u64 yl] 54)).cell? ⟨w3.heap.size, 1, none⟩ = some (.int .u64 bl) := newC3 w3 _ _ _ 1
  have hB5 : Below w.heap.size w ((w3.alloc (.cells #[.int .u64 0, .int .u64 bl] 54)).alloc (.cells #[.int .u64 yh, .int .u64 yl] 54)) := beyond hB4 (two _ _ _)
  clear u4 u5 uf0 uf1 un0 un1 hB4
  generalize ((w3.alloc (.cells #[.int .u64 0, .int .u64 bl] 54)).alloc (.cells #[.int .u64 yh, .int .u64 yl] 54)) = W3 at *
  generalize w3.heap.size = bd at *
  have y4 : ∀ O, (W3.alloc O).cell? ⟨w.heap.size + 1 + 1, 0, none⟩ = some (.int .i64 0) := fun O => kc _ _ (single _ _) x4
  have y5 : ∀ O, (W3.alloc O).cell? ⟨w.heap.size + 1 + 1, 1, none⟩ = some (.int .i64 0) := fun O => kc _ _ (single _ _) x5
  have yn0 : ∀ O, (W3.alloc O).cell? ⟨bn, 0, none⟩ = some (.int .u64 0) := fun O => kc _ _ (single _ _) xn0
  have yn1 : ∀ O, (W3.alloc O).cell? ⟨bn, 1, none⟩ = some (.int .u64 al) := fun O => kc _ _ (single _ _) xn1
  have yf0 : ∀ O, (W3.alloc O).frozen? ⟨w.heap.size + 1 + 1, 0, none⟩ = false := fun O => kf _ _ (single _ _) x4 xf0
  have yf1 : ∀ O, (W3.alloc O).frozen? ⟨w.heap.size + 1 + 1, 1, none⟩ = false := fun O => kf _ _ (single _ _) x5 xf1
  have l3 : w.heap.size + 1 + 1 < W3.heap.size := World.block_lt_of_cell? _ _ x4
  have l4 : bn < W3.heap.size := World.block_lt_of_cell? _ _ xn0
  have m1 : ¬ W3.heap.size = w.heap.size + 1 + 1 := by omega
  have m2 : ¬ w.heap.size + 1 + 1 = W3.heap.size := by omega
  have m3 : ¬ W3.heap.size = bn := by omega
  have m4 : ¬ bn = W3.heap.size := by omega
  have HB6 := hideR (show ∀ O, Below w.heap.size w (W3.alloc O) from fun O => beyond hB5 (single _ _))
  have HB5 := hideR hB5
  clear l1 l3 l4 hB5
  go_wp2_with fail
  refine bodyPost_ret (v := trip (nn, bl, 0)) (by simp [results, Tryd.results38, go_sem, *]) rfl ⟨rfl, ?_⟩
  first | exact set2 HB5.out (by omega) _ _ | exact set2 (HB6.out _) (by omega) _ _ | exact HB5.out | (refine set2 (Below.setCell (HB6.out _) ?_ _) (by omega) _ _; have := (HB6.out default).size; simp at this; omega) | trace_state
set_option maxRecDepth 100000 in
set_option maxHeartbeats 8000000 in
theorem xheld_h_true_f1 (ph pl qh ql gh gl ah al bh bl xh xl yh yl : Int) (w : World) (hq : ¬ qh = 0) (hc : ¬ ah = 0)
    (HC : Hid (∀ w, Calls Tryd.prog 42 #[.agg #[.int .u64 ph, .int .u64 pl], .agg #[.int .u64 qh, .int .u64 ql]] w fun e w' => e = .returned (.agg #[.int .u64 gh, .int .u64 gl]) ∧ Below w.heap.size w w'))
    (HD1 : Hid (∀ w, Calls Tryd.prog 65 #[.agg #[.int .u64 ph, .int .u64 pl], .agg #[.int .u64 gh, .int .u64 gl]] w fun e w' => e = .returned (.tuple #[.agg #[.int .u64 ah, .int .u64 al], .agg #[.int .u64 xh, .int .u64 xl]]) ∧ Below w.heap.size w w'))
    (HD2 : Hid (∀ w, Calls Tryd.prog 65 #[.agg #[.int .u64 qh, .int .u64 ql], .agg #[.int .u64 gh, .int .u64 gl]] w fun e w' => e = .returned (.tuple #[.agg #[.int .u64 bh, .int .u64 bl], .agg #[.int .u64 yh, .int .u64 yl]]) ∧ Below w.heap.size w w')) :
    Calls Tryd.prog 38 #[.bool true, .agg #[.int .u64 ph, .int .u64 pl], .agg #[.int .u64 qh, .int .u64 ql]] w fun e w' => e = .returned (trip (0, 0, 20)) ∧ Below w.heap.size w w' := by
  have n1 : ¬ w.heap.size = w.heap.size + 1 + 1 := by omega
  have n2 : ¬ w.heap.size + 1 + 1 = w.heap.size := by omega
  go_enter Tryd.func38, Tryd.ntmps38
  go_wp2_with fail
  refine (HC.out _).mono ?_
  rintro e w1 ⟨rfl, hb⟩
  have s0 := kc ⟨w.heap.size, 0, none⟩ (.int .u64 ph) hb (by first | assumption | simp [go_sem, *])
  have s1 := kc ⟨w.heap.size, 1, none⟩ (.int .u64 pl) hb (by first | assumption | simp [go_sem, *])
  have s2 := kc ⟨w.heap.size + 1, 0, none⟩ (.int .u64 qh) hb (by first | assumption | simp [go_sem, *])
  have s3 := kc ⟨w.heap.size + 1, 1, none⟩ (.int .u64 ql) hb (by first | assumption | simp [go_sem, *])
  have s4 := kc ⟨w.heap.size + 1 + 1, 0, none⟩ (.int .i64 0) hb (by first | assumption | simp [go_sem, *])
  have s5 := kc ⟨w.heap.size + 1 + 1, 1, none⟩ (.int .i64 0) hb (by first | assumption | simp [go_sem, *])
  have sf0 := kf ⟨w.heap.size + 1 + 1, 0, none⟩ (.int .i64 0) hb (by first | assumption | simp [go_sem, *]) (by first | assumption | simp [go_sem, *])
  have sf1 := kf ⟨w.heap.size + 1 + 1, 1, none⟩ (.int .i64 0) hb (by first | assumption | simp [go_sem, *]) (by first | assumption | simp [go_sem, *])
  have hB1 : Below w.heap.size w w1 := beyond (three w _ _ _) hb
  clear hb
  have l1 : w.heap.size + 1 + 1 < w1.heap.size := World.block_lt_of_cell? _ _ s4
  go_upto_region 4 with (fail)
  have t0 : (w1.alloc (.cells #[.int .u64 gh, .int .u64 gl] 54)).cell? ⟨w.heap.size, 0, none⟩ = some (.int .u64 ph) := kc _ _ (single _ _) s0
  have t1 : (w1.alloc (.cells #[.int .u64 gh, .int .u64 gl] 54)).cell? ⟨w.heap.size, 1, none⟩ = some (.int .u64 pl) := kc _ _ (single _ _) s1
  have t2 : (w1.alloc (.cells #[.int .u64 gh, .int .u64 gl] 54)).cell? ⟨w.heap.size + 1, 0, none⟩ = some (.int .u64 qh) := kc _ _ (single _ _) s2
  have t3 : (w1.alloc (.cells #[.int .u64 gh, .int .u64 gl] 54)).cell? ⟨w.heap.size + 1, 1, none⟩ = some (.int .u64 ql) := kc _ _ (single _ _) s3
  have t4 : (w1.alloc (.cells #[.int .u64 gh, .int .u64 gl] 54)).cell? ⟨w.heap.size + 1 + 1, 0, none⟩ = some (.int .i64 0) := kc _ _ (single _ _) s4
  have t5 : (w1.alloc (.cells #[.int .u64 gh, .int .u64 gl] 54)).cell? ⟨w.heap.size + 1 + 1, 1, none⟩ = some (.int .i64 0) := kc _ _ (single _ _) s5
  have tf0 : (w1.alloc (.cells #[.int .u64 gh, .int .u64 gl] 54)).frozen? ⟨w.heap.size + 1 + 1, 0, none⟩ = false := kf _ _ (single _ _) s4 sf0
  have tf1 : (w1.alloc (.cells #[.int .u64 gh, .int .u64 gl] 54)).frozen? ⟨w.heap.size + 1 + 1, 1, none⟩ = false := kf _ _ (single _ _) s5 sf1
  have tg0 : (w1.alloc (.cells #[.int .u64 gh, .int .u64 gl] 54)).cell? ⟨w1.heap.size, 0, none⟩ = some (.int .u64 gh) := new_cell w1 _ _ 0
  have tg1 : (w1.alloc (.cells #[.int .u64 gh, .int .u64 gl] 54)).cell? ⟨w1.heap.size, 1, none⟩ = some (.int .u64 gl) := new_cell w1 _ _ 1
  have hBG : Below w.heap.size w (w1.alloc (.cells #[.int .u64 gh, .int .u64 gl] 54)) := beyond hB1 (single _ _)
  clear s0 s1 s2 s3 s4 s5 sf0 sf1 hB1 HC
  generalize (w1.alloc (.cells #[.int .u64 gh, .int .u64 gl] 54)) = W1 at *
  generalize w1.heap.size = bg at *
  go_wp2_with fail
  refine (HD1.out _).mono ?_
  rintro e w2 ⟨rfl, hb⟩
  have u0 := kc _ _ hb t0
  have u1 := kc _ _ hb t1
  have u2 := kc _ _ hb t2
  have u3 := kc _ _ hb t3
  have u4 := kc _ _ hb t4
  have u5 := kc _ _ hb t5
  have uf0 := kf _ _ hb t4 tf0
  have uf1 := kf _ _ hb t5 tf1
  have ug0 := kc _ _ hb tg0
  have ug1 := kc _ _ hb tg1
  have hB2 : Below w.heap.size w w2 := beyond hBG hb
  clear hb t0 t1 t2 t3 t4 t5 tf0 tf1 tg0 tg1 hBG HD1
  go_upto_region 5 with (fail)
  have v0 : ((w2.alloc (.cells #[.int .u64 ah, .int .u64 al] 54)).alloc (.cells #[.int .u64 xh, .int .u64 xl] 54)).cell? ⟨w.heap.size, 0, none⟩ = some (.int .u64 ph) := kc _ _ (two _ _ _) u0
  have v1 : ((w2.alloc (.cells #[.int .u64 ah, .int .u64 al] 54)).alloc (.cells #[.int .u64 xh, .int .u64 xl] 54)).cell? ⟨w.heap.size, 1, none⟩ = some (.int .u64 pl) := kc _ _ (two _ _ _) u1
  have v2 : ((w2.alloc (.cells #[.int .u64 ah, .int .u64 al] 54)).alloc (.cells #[.int .u64 xh, .int .u64 xl] 54)).cell? ⟨w.heap.size + 1, 0, none⟩ = some (.int .u64 qh) := kc _ _ (two _ _ _) u2
  have v3 : ((w2.alloc (.cells #[.int .u64 ah, .int .u64 al] 54)).alloc (.cells #[.int .u64 xh, .int .u64 xl] 54)).cell? ⟨w.heap.size + 1, 1, none⟩ = some (.int .u64 ql) := kc _ _ (two _ _ _) u3
  have v4 : ((w2.alloc (.cells #[.int .u64 ah, .int .u64 al] 54)).alloc (.cells #[.int .u64 xh, .int .u64 xl] 54)).cell? ⟨w.heap.size + 1 + 1, 0, none⟩ = some (.int .i64 0) := kc _ _ (two _ _ _) u4
  have v5 : ((w2.alloc (.cells #[.int .u64 ah, .int .u64 al] 54)).alloc (.cells #[.int .u64 xh, .int .u64 xl] 54)).cell? ⟨w.heap.size + 1 + 1, 1, none⟩ = some (.int .i64 0) := kc _ _ (two _ _ _) u5
  have vf0 : ((w2.alloc (.cells #[.int .u64 ah, .int .u64 al] 54)).alloc (.cells #[.int .u64 xh, .int .u64 xl] 54)).frozen? ⟨w.heap.size + 1 + 1, 0, none⟩ = false := kf _ _ (two _ _ _) u4 uf0
  have vf1 : ((w2.alloc (.cells #[.int .u64 ah, .int .u64 al] 54)).alloc (.cells #[.int .u64 xh, .int .u64 xl] 54)).frozen? ⟨w.heap.size + 1 + 1, 1, none⟩ = false := kf _ _ (two _ _ _) u5 uf1
  have vg0 : ((w2.alloc (.cells #[.int .u64 ah, .int .u64 al] 54)).alloc (.cells #[.int .u64 xh, .int .u64 xl] 54)).cell? ⟨bg, 0, none⟩ = some (.int .u64 gh) := kc _ _ (two _ _ _) ug0
  have vg1 : ((w2.alloc (.cells #[.int .u64 ah, .int .u64 al] 54)).alloc (.cells #[.int .u64 xh, .int .u64 xl] 54)).cell? ⟨bg, 1, none⟩ = some (.int .u64 gl) := kc _ _ (two _ _ _) ug1
  have vn0 : ((w2.alloc (.cells #[.int .u64 ah, .int .u64 al] 54)).alloc (.cells #[.int .u64 xh, .int .u64 xl] 54)).cell? ⟨w2.heap.size, 0, none⟩ = some (.int .u64 ah) := newC3 w2 _ _ _ 0
  have vn1 : ((w2.alloc (.cells #[.int .u64 ah, .int .u64 al] 54)).alloc (.cells #[.int .u64 xh, .int .u64 xl] 54)).cell? ⟨w2.heap.size, 1, none⟩ = some (.int .u64 al) := newC3 w2 _ _ _ 1
  have hB3 : Below w.heap.size w ((w2.alloc (.cells #[.int .u64 ah, .int .u64 al] 54)).alloc (.cells #[.int .u64 xh, .int .u64 xl] 54)) := beyond hB2 (two _ _ _)
  clear u0 u1 u2 u3 u4 u5 uf0 uf1 ug0 ug1 hB2
  generalize ((w2.alloc (.cells #[.int .u64 ah, .int .u64 al] 54)).alloc (.cells #[.int .u64 xh, .int .u64 xl] 54)) = W2 at *
  generalize w2.heap.size = bn at *
  go_wp2_with fail
  refine (HD2.out _).mono ?_
  rintro e w3 ⟨rfl, hb⟩
  have u4 := kc _ _ hb v4
  have u5 := kc _ _ hb v5
  have uf0 := kf _ _ hb v4 vf0
  have uf1 := kf _ _ hb v5 vf1
  have un0 := kc _ _ hb vn0
  have un1 := kc _ _ hb vn1
  have hB4 : Below w.heap.size w w3 := beyond hB3 hb
  clear hb v0 v1 v2 v3 v4 v5 vf0 vf1 vg0 vg1 vn0 vn1 hB3 HD2 hq
  go_upto_region 6 with (fail)
  have x4 : ((w3.alloc (.cells #[.int .u64 bh, .int .u64 bl] 54)).alloc (.cells #[.int .u64 yh, .int .u64 yl] 54)).cell? ⟨w.heap.size + 1 + 1, 0, none⟩ = some (.int .i64 0) := kc _ _ (two _ _ _) u4
  have x5 : ((w3.alloc (.cells #[.int .u64 bh, .int .u64 bl] 54)).alloc (.cells #[.int .u64 yh, .int .u64 yl] 54)).cell? ⟨w.heap.size + 1 + 1, 1, none⟩ = some (.int .i64 0) := kc _ _ (two _ _ _) u5
  have xf0 : ((w3.alloc (.cells #[.int .u64 bh, .int .u64 bl] 54)).alloc (.cells #[.int .u64 yh, .int .u64 yl] 54)).frozen? ⟨w.heap.size + 1 + 1, 0, none⟩ = false := kf _ _ (two _ _ _) u4 uf0
  have xf1 : ((w3.alloc (.cells #[.int .u64 bh, .int .u64 bl] 54)).alloc (.cells #[.int .u64 yh, .int .u64 yl] 54)).frozen? ⟨w.heap.size + 1 + 1, 1, none⟩ = false := kf _ _ (two _ _ _) u5 uf1
  have xn0 : ((w3.alloc (.cells #[.int .u64 bh, .int .u64 bl] 54)).alloc (.cells #[.int .u64 yh, .int .u64 yl] 54)).cell? ⟨bn, 0, none⟩ = some (.int .u64 ah) := kc _ _ (two _ _ _) un0
  have xn1 : ((w3.alloc (.cells #[.int .u64 bh, .int .u64 bl] 54)).alloc (.cells #[.int .u64 yh, .int .u64 yl] 54)).cell? ⟨bn, 1, none⟩ = some (.int .u64 al) := kc _ _ (two _ _ _) un1
  have xd0 : ((w3.alloc (.cells #[.int .u64 bh, .int .u64 bl] 54)).alloc (.cells #[.int .u64 yh, .int .u64 yl] 54)).cell? ⟨w3.heap.size, 0, none⟩ = some (.int .u64 bh) := newC3 w3 _ _ _ 0
  have xd1 : ((w3.alloc (.cells #[.int .u64 bh, .int .u64 bl] 54)).alloc (.cells #[.int .u64 yh, .int .u64 yl] 54)).cell? ⟨w3.heap.size, 1, none⟩ = some (.int .u64 bl) := newC3 w3 _ _ _ 1
  have hB5 : Below w.heap.size w ((w3.alloc (.cells #[.int .u64 bh, .int .u64 bl] 54)).alloc (.cells #[.int .u64 yh, .int .u64 yl] 54)) := beyond hB4 (two _ _ _)
  clear u4 u5 uf0 uf1 un0 un1 hB4
  generalize ((w3.alloc (.cells #[.int .u64 bh, .int .u64 bl] 54)).alloc (.cells #[.int .u64 yh, .int .u64 yl] 54)) = W3 at *
  generalize w3.heap.size = bd at *
  have y4 : ∀ O, (W3.alloc O).cell? ⟨w.heap.size + 1 + 1, 0, none⟩ = some (.int .i64 0) := fun O => kc _ _ (single _ _) x4
  have y5 : ∀ O, (W3.alloc O).cell? ⟨w.heap.size + 1 + 1, 1, none⟩ = some (.int .i64 0) := fun O => kc _ _ (single _ _) x5
  have yn0 : ∀ O, (W3.alloc O).cell? ⟨bn, 0, none⟩ = some (.int .u64 ah) := fun O => kc _ _ (single _ _) xn0
  have yn1 : ∀ O, (W3.alloc O).cell? ⟨bn, 1, none⟩ = some (.int .u64 al) := fun O => kc _ _ (single _ _) xn1
  have yf0 : ∀ O, (W3.alloc O).frozen? ⟨w.heap.size + 1 + 1, 0, none⟩ = false := fun O => kf _ _ (single _ _) x4 xf0
  have yf1 : ∀ O, (W3.alloc O).frozen? ⟨w.heap.size + 1 + 1, 1, none⟩ = false := fun O => kf _ _ (single _ _) x5 xf1
  have l3 : w.heap.size + 1 + 1 < W3.heap.size := World.block_lt_of_cell? _ _ x4
  have l4 : bn < W3.heap.size := World.block_lt_of_cell? _ _ xn0
  have m1 : ¬ W3.heap.size = w.heap.size + 1 + 1 := by omega
  have m2 : ¬ w.heap.size + 1 + 1 = W3.heap.size := by omega
  have m3 : ¬ W3.heap.size = bn := by omega
  have m4 : ¬ bn = W3.heap.size := by omega
  have HB6 := hideR (show ∀ O, Below w.heap.size w (W3.alloc O) from fun O => beyond hB5 (single _ _))
  have HB5 := hideR hB5
  clear l1 l3 l4 hB5
  go_wp2_with fail
  refine bodyPost_ret (v := trip (0, 0, 20)) (by simp [results, Tryd.results38, go_sem, *]) rfl ⟨rfl, ?_⟩
  first | exact set2 HB5.out (by omega) _ _ | exact set2 (HB6.out _) (by omega) _ _ | exact HB5.out | (refine set2 (Below.setCell (HB6.out _) ?_ _) (by omega) _ _; have := (HB6.out default).size; simp at this; omega) | trace_state
set_option maxRecDepth 100000 in
set_option maxHeartbeats 8000000 in
theorem xheld_h_true_f2 (ph pl qh ql gh gl al bh bl xh xl yh yl : Int) (w : World) (hq : ¬ qh = 0) (hc : 9223372036854775808 < al)
    (HC : Hid (∀ w, Calls Tryd.prog 42 #[.agg #[.int .u64 ph, .int .u64 pl], .agg #[.int .u64 qh, .int .u64 ql]] w fun e w' => e = .returned (.agg #[.int .u64 gh, .int .u64 gl]) ∧ Below w.heap.size w w'))
    (HD1 : Hid (∀ w, Calls Tryd.prog 65 #[.agg #[.int .u64 ph, .int .u64 pl], .agg #[.int .u64 gh, .int .u64 gl]] w fun e w' => e = .returned (.tuple #[.agg #[.int .u64 0, .int .u64 al], .agg #[.int .u64 xh, .int .u64 xl]]) ∧ Below w.heap.size w w'))
    (HD2 : Hid (∀ w, Calls Tryd.prog 65 #[.agg #[.int .u64 qh, .int .u64 ql], .agg #[.int .u64 gh, .int .u64 gl]] w fun e w' => e = .returned (.tuple #[.agg #[.int .u64 bh, .int .u64 bl], .agg #[.int .u64 yh, .int .u64 yl]]) ∧ Below w.heap.size w w')) :
    Calls Tryd.prog 38 #[.bool true, .agg #[.int .u64 ph, .int .u64 pl], .agg #[.int .u64 qh, .int .u64 ql]] w fun e w' => e = .returned (trip (0, 0, 20)) ∧ Below w.heap.size w w' := by
  have n1 : ¬ w.heap.size = w.heap.size + 1 + 1 := by omega
  have n2 : ¬ w.heap.size + 1 + 1 = w.heap.size := by omega
  go_enter Tryd.func38, Tryd.ntmps38
  go_wp2_with fail
  refine (HC.out _).mono ?_
  rintro e w1 ⟨rfl, hb⟩
  have s0 := kc ⟨w.heap.size, 0, none⟩ (.int .u64 ph) hb (by first | assumption | simp [go_sem, *])
  have s1 := kc ⟨w.heap.size, 1, none⟩ (.int .u64 pl) hb (by first | assumption | simp [go_sem, *])
  have s2 := kc ⟨w.heap.size + 1, 0, none⟩ (.int .u64 qh) hb (by first | assumption | simp [go_sem, *])
  have s3 := kc ⟨w.heap.size + 1, 1, none⟩ (.int .u64 ql) hb (by first | assumption | simp [go_sem, *])
  have s4 := kc ⟨w.heap.size + 1 + 1, 0, none⟩ (.int .i64 0) hb (by first | assumption | simp [go_sem, *])
  have s5 := kc ⟨w.heap.size + 1 + 1, 1, none⟩ (.int .i64 0) hb (by first | assumption | simp [go_sem, *])
  have sf0 := kf ⟨w.heap.size + 1 + 1, 0, none⟩ (.int .i64 0) hb (by first | assumption | simp [go_sem, *]) (by first | assumption | simp [go_sem, *])
  have sf1 := kf ⟨w.heap.size + 1 + 1, 1, none⟩ (.int .i64 0) hb (by first | assumption | simp [go_sem, *]) (by first | assumption | simp [go_sem, *])
  have hB1 : Below w.heap.size w w1 := beyond (three w _ _ _) hb
  clear hb
  have l1 : w.heap.size + 1 + 1 < w1.heap.size := World.block_lt_of_cell? _ _ s4
  go_upto_region 4 with (fail)
  have t0 : (w1.alloc (.cells #[.int .u64 gh, .int .u64 gl] 54)).cell? ⟨w.heap.size, 0, none⟩ = some (.int .u64 ph) := kc _ _ (single _ _) s0
  have t1 : (w1.alloc (.cells #[.int .u64 gh, .int .u64 gl] 54)).cell? ⟨w.heap.size, 1, none⟩ = some (.int .u64 pl) := kc _ _ (single _ _) s1
  have t2 : (w1.alloc (.cells #[.int .u64 gh, .int .u64 gl] 54)).cell? ⟨w.heap.size + 1, 0, none⟩ = some (.int .u64 qh) := kc _ _ (single _ _) s2
  have t3 : (w1.alloc (.cells #[.int .u64 gh, .int .u64 gl] 54)).cell? ⟨w.heap.size + 1, 1, none⟩ = some (.int .u64 ql) := kc _ _ (single _ _) s3
  have t4 : (w1.alloc (.cells #[.int .u64 gh, .int .u64 gl] 54)).cell? ⟨w.heap.size + 1 + 1, 0, none⟩ = some (.int .i64 0) := kc _ _ (single _ _) s4
  have t5 : (w1.alloc (.cells #[.int .u64 gh, .int .u64 gl] 54)).cell? ⟨w.heap.size + 1 + 1, 1, none⟩ = some (.int .i64 0) := kc _ _ (single _ _) s5
  have tf0 : (w1.alloc (.cells #[.int .u64 gh, .int .u64 gl] 54)).frozen? ⟨w.heap.size + 1 + 1, 0, none⟩ = false := kf _ _ (single _ _) s4 sf0
  have tf1 : (w1.alloc (.cells #[.int .u64 gh, .int .u64 gl] 54)).frozen? ⟨w.heap.size + 1 + 1, 1, none⟩ = false := kf _ _ (single _ _) s5 sf1
  have tg0 : (w1.alloc (.cells #[.int .u64 gh, .int .u64 gl] 54)).cell? ⟨w1.heap.size, 0, none⟩ = some (.int .u64 gh) := new_cell w1 _ _ 0
  have tg1 : (w1.alloc (.cells #[.int .u64 gh, .int .u64 gl] 54)).cell? ⟨w1.heap.size, 1, none⟩ = some (.int .u64 gl) := new_cell w1 _ _ 1
  have hBG : Below w.heap.size w (w1.alloc (.cells #[.int .u64 gh, .int .u64 gl] 54)) := beyond hB1 (single _ _)
  clear s0 s1 s2 s3 s4 s5 sf0 sf1 hB1 HC
  generalize (w1.alloc (.cells #[.int .u64 gh, .int .u64 gl] 54)) = W1 at *
  generalize w1.heap.size = bg at *
  go_wp2_with fail
  refine (HD1.out _).mono ?_
  rintro e w2 ⟨rfl, hb⟩
  have u0 := kc _ _ hb t0
  have u1 := kc _ _ hb t1
  have u2 := kc _ _ hb t2
  have u3 := kc _ _ hb t3
  have u4 := kc _ _ hb t4
  have u5 := kc _ _ hb t5
  have uf0 := kf _ _ hb t4 tf0
  have uf1 := kf _ _ hb t5 tf1
  have ug0 := kc _ _ hb tg0
  have ug1 := kc _ _ hb tg1
  have hB2 : Below w.heap.size w w2 := beyond hBG hb
  clear hb t0 t1 t2 t3 t4 t5 tf0 tf1 tg0 tg1 hBG HD1
  go_upto_region 5 with (fail)
  have v0 : ((w2.alloc (.cells #[.int .u64 0, .int .u64 al] 54)).alloc (.cells #[.int .u64 xh, .int .u64 xl] 54)).cell? ⟨w.heap.size, 0, none⟩ = some (.int .u64 ph) := kc _ _ (two _ _ _) u0
  have v1 : ((w2.alloc (.cells #[.int .u64 0, .int .u64 al] 54)).alloc (.cells #[.int .u64 xh, .int .u64 xl] 54)).cell? ⟨w.heap.size, 1, none⟩ = some (.int .u64 pl) := kc _ _ (two _ _ _) u1
  have v2 : ((w2.alloc (.cells #[.int .u64 0, .int .u64 al] 54)).alloc (.cells #[.int .u64 xh, .int .u64 xl] 54)).cell? ⟨w.heap.size + 1, 0, none⟩ = some (.int .u64 qh) := kc _ _ (two _ _ _) u2
  have v3 : ((w2.alloc (.cells #[.int .u64 0, .int .u64 al] 54)).alloc (.cells #[.int .u64 xh, .int .u64 xl] 54)).cell? ⟨w.heap.size + 1, 1, none⟩ = some (.int .u64 ql) := kc _ _ (two _ _ _) u3
  have v4 : ((w2.alloc (.cells #[.int .u64 0, .int .u64 al] 54)).alloc (.cells #[.int .u64 xh, .int .u64 xl] 54)).cell? ⟨w.heap.size + 1 + 1, 0, none⟩ = some (.int .i64 0) := kc _ _ (two _ _ _) u4
  have v5 : ((w2.alloc (.cells #[.int .u64 0, .int .u64 al] 54)).alloc (.cells #[.int .u64 xh, .int .u64 xl] 54)).cell? ⟨w.heap.size + 1 + 1, 1, none⟩ = some (.int .i64 0) := kc _ _ (two _ _ _) u5
  have vf0 : ((w2.alloc (.cells #[.int .u64 0, .int .u64 al] 54)).alloc (.cells #[.int .u64 xh, .int .u64 xl] 54)).frozen? ⟨w.heap.size + 1 + 1, 0, none⟩ = false := kf _ _ (two _ _ _) u4 uf0
  have vf1 : ((w2.alloc (.cells #[.int .u64 0, .int .u64 al] 54)).alloc (.cells #[.int .u64 xh, .int .u64 xl] 54)).frozen? ⟨w.heap.size + 1 + 1, 1, none⟩ = false := kf _ _ (two _ _ _) u5 uf1
  have vg0 : ((w2.alloc (.cells #[.int .u64 0, .int .u64 al] 54)).alloc (.cells #[.int .u64 xh, .int .u64 xl] 54)).cell? ⟨bg, 0, none⟩ = some (.int .u64 gh) := kc _ _ (two _ _ _) ug0
  have vg1 : ((w2.alloc (.cells #[.int .u64 0, .int .u64 al] 54)).alloc (.cells #[.int .u64 xh, .int .u64 xl] 54)).cell? ⟨bg, 1, none⟩ = some (.int .u64 gl) := kc _ _ (two _ _ _) ug1
  have vn0 : ((w2.alloc (.cells #[.int .u64 0, .int .u64 al] 54)).alloc (.cells #[.int .u64 xh, .int .u64 xl] 54)).cell? ⟨w2.heap.size, 0, none⟩ = some (.int .u64 0) := newC3 w2 _ _ _ 0
  have vn1 : ((w2.alloc (.cells #[.int .u64 0, .int .u64 al] 54)).alloc (.cells #[.int .u64 xh, .int .u64 xl] 54)).cell? ⟨w2.heap.size, 1, none⟩ = some (.int .u64 al) := newC3 w2 _ _ _ 1
  have hB3 : Below w.heap.size w ((w2.alloc (.cells #[.int .u64 0, .int .u64 al] 54)).alloc (.cells #[.int .u64 xh, .int .u64 xl] 54)) := beyond hB2 (two _ _ _)
  clear u0 u1 u2 u3 u4 u5 uf0 uf1 ug0 ug1 hB2
  generalize ((w2.alloc (.cells #[.int .u64 0, .int .u64 al] 54)).alloc (.cells #[.int .u64 xh, .int .u64 xl] 54)) = W2 at *
  generalize w2.heap.size = bn at *
  go_wp2_with fail
  refine (HD2.out _).mono ?_
  rintro e w3 ⟨rfl, hb⟩
  have u4 := kc _ _ hb v4
  have u5 := kc _ _ hb v5
  have uf0 := kf _ _ hb v4 vf0
  have uf1 := kf _ _ hb v5 vf1
  have un0 := kc _ _ hb vn0
  have un1 := kc _ _ hb vn1
  have hB4 : Below w.heap.size w w3 := beyond hB3 hb
  clear hb v0 v1 v2 v3 v4 v5 vf0 vf1 vg0 vg1 vn0 vn1 hB3 HD2 hq
  go_upto_region 6 with (fail)
  have x4 : ((w3.alloc (.cells #[.int .u64 bh, .int .u64 bl] 54)).alloc (.cells #[.int .u64 yh, .int .u64 yl] 54)).cell? ⟨w.heap.size + 1 + 1, 0, none⟩ = some (.int .i64 0) := kc _ _ (two _ _ _) u4
  have x5 : ((w3.alloc (.cells #[.int .u64 bh, .int .u64 bl] 54)).alloc (.cells #[.int .u64 yh, .int .u64 yl] 54)).cell? ⟨w.heap.size + 1 + 1, 1, none⟩ = some (.int .i64 0) := kc _ _ (two _ _ _) u5
  have xf0 : ((w3.alloc (.cells #[.int .u64 bh, .int .u64 bl] 54)).alloc (.cells #[.int .u64 yh, .int .u64 yl] 54)).frozen? ⟨w.heap.size + 1 + 1, 0, none⟩ = false := kf _ _ (two _ _ _) u4 uf0
  have xf1 : ((w3.alloc (.cells #[.int .u64 bh, .int .u64 bl] 54)).alloc (.cells #[.int .u64 yh, .int .u64 yl] 54)).frozen? ⟨w.heap.size + 1 + 1, 1, none⟩ = false := kf _ _ (two _ _ _) u5 uf1
  have xn0 : ((w3.alloc (.cells #[.int .u64 bh, .int .u64 bl] 54)).alloc (.cells #[.int .u64 yh, .int .u64 yl] 54)).cell? ⟨bn, 0, none⟩ = some (.int .u64 0) := kc _ _ (two _ _ _) un0
  have xn1 : ((w3.alloc (.cells #[.int .u64 bh, .int .u64 bl] 54)).alloc (.cells #[.int .u64 yh, .int .u64 yl] 54)).cell? ⟨bn, 1, none⟩ = some (.int .u64 al) := kc _ _ (two _ _ _) un1
  have xd0 : ((w3.alloc (.cells #[.int .u64 bh, .int .u64 bl] 54)).alloc (.cells #[.int .u64 yh, .int .u64 yl] 54)).cell? ⟨w3.heap.size, 0, none⟩ = some (.int .u64 bh) := newC3 w3 _ _ _ 0
  have xd1 : ((w3.alloc (.cells #[.int .u64 bh, .int .u64 bl] 54)).alloc (.cells #[.int .u64 yh, .int .u64 yl] 54)).cell? ⟨w3.heap.size, 1, none⟩ = some (.int .u64 bl) := newC3 w3 _ _ _ 1
  have hB5 : Below w.heap.size w ((w3.alloc (.cells #[.int .u64 bh, .int .u64 bl] 54)).alloc (.cells #[.int .u64 yh, .int .u64 yl] 54)) := beyond hB4 (two _ _ _)
  clear u4 u5 uf0 uf1 un0 un1 hB4
  generalize ((w3.alloc (.cells #[.int .u64 bh, .int .u64 bl] 54)).alloc (.cells #[.int .u64 yh, .int .u64 yl] 54)) = W3 at *
  generalize w3.heap.size = bd at *
  have y4 : ∀ O, (W3.alloc O).cell? ⟨w.heap.size + 1 + 1, 0, none⟩ = some (.int .i64 0) := fun O => kc _ _ (single _ _) x4
  have y5 : ∀ O, (W3.alloc O).cell? ⟨w.heap.size + 1 + 1, 1, none⟩ = some (.int .i64 0) := fun O => kc _ _ (single _ _) x5
  have yn0 : ∀ O, (W3.alloc O).cell? ⟨bn, 0, none⟩ = some (.int .u64 0) := fun O => kc _ _ (single _ _) xn0
  have yn1 : ∀ O, (W3.alloc O).cell? ⟨bn, 1, none⟩ = some (.int .u64 al) := fun O => kc _ _ (single _ _) xn1
  have yf0 : ∀ O, (W3.alloc O).frozen? ⟨w.heap.size + 1 + 1, 0, none⟩ = false := fun O => kf _ _ (single _ _) x4 xf0
  have yf1 : ∀ O, (W3.alloc O).frozen? ⟨w.heap.size + 1 + 1, 1, none⟩ = false := fun O => kf _ _ (single _ _) x5 xf1
  have l3 : w.heap.size + 1 + 1 < W3.heap.size := World.block_lt_of_cell? _ _ x4
  have l4 : bn < W3.heap.size := World.block_lt_of_cell? _ _ xn0
  have m1 : ¬ W3.heap.size = w.heap.size + 1 + 1 := by omega
  have m2 : ¬ w.heap.size + 1 + 1 = W3.heap.size := by omega
  have m3 : ¬ W3.heap.size = bn := by omega
  have m4 : ¬ bn = W3.heap.size := by omega
  have HB6 := hideR (show ∀ O, Below w.heap.size w (W3.alloc O) from fun O => beyond hB5 (single _ _))
  have HB5 := hideR hB5
  clear l1 l3 l4 hB5
  go_wp2_with fail
  refine bodyPost_ret (v := trip (0, 0, 20)) (by simp [results, Tryd.results38, go_sem, *]) rfl ⟨rfl, ?_⟩
  first | exact set2 HB5.out (by omega) _ _ | exact set2 (HB6.out _) (by omega) _ _ | exact HB5.out | (refine set2 (Below.setCell (HB6.out _) ?_ _) (by omega) _ _; have := (HB6.out default).size; simp at this; omega) | trace_state
set_option maxRecDepth 100000 in
set_option maxHeartbeats 8000000 in
theorem xheld_h_true_f3 (ph pl qh ql gh gl al bh bl xh xl yh yl : Int) (w : World) (hq : ¬ qh = 0) (e2 : ¬ 9223372036854775808 < al) (hc : ¬ bh = 0)
    (HC : Hid (∀ w, Calls Tryd.prog 42 #[.agg #[.int .u64 ph, .int .u64 pl], .agg #[.int .u64 qh, .int .u64 ql]] w fun e w' => e = .returned (.agg #[.int .u64 gh, .int .u64 gl]) ∧ Below w.heap.size w w'))
    (HD1 : Hid (∀ w, Calls Tryd.prog 65 #[.agg #[.int .u64 ph, .int .u64 pl], .agg #[.int .u64 gh, .int .u64 gl]] w fun e w' => e = .returned (.tuple #[.agg #[.int .u64 0, .int .u64 al], .agg #[.int .u64 xh, .int .u64 xl]]) ∧ Below w.heap.size w w'))
    (HD2 : Hid (∀ w, Calls Tryd.prog 65 #[.agg #[.int .u64 qh, .int .u64 ql], .agg #[.int .u64 gh, .int .u64 gl]] w fun e w' => e = .returned (.tuple #[.agg #[.int .u64 bh, .int .u64 bl], .agg #[.int .u64 yh, .int .u64 yl]]) ∧ Below w.heap.size w w')) :
    Calls Tryd.prog 38 #[.bool true, .agg #[.int .u64 ph, .int .u64 pl], .agg #[.int .u64 qh, .int .u64 ql]] w fun e w' => e = .returned (trip (0, 0, 20)) ∧ Below w.heap.size w w' := by
  have n1 : ¬ w.heap.size = w.heap.size + 1 + 1 := by omega
  have n2 : ¬ w.heap.size + 1 + 1 = w.heap.size := by omega
  go_enter Tryd.func38, Tryd.ntmps38
  go_wp2_with fail
  refine (HC.out _).mono ?_
  rintro e w1 ⟨rfl, hb⟩
  have s0 := kc ⟨w.heap.size, 0, none⟩ (.int .u64 ph) hb (by first | assumption | simp [go_sem, *])
  have s1 := kc ⟨w.heap.size, 1, none⟩ (.int .u64 pl) hb (by first | assumption | simp [go_sem, *])
  have s2 := kc ⟨w.heap.size + 1, 0, none⟩ (.int .u64 qh) hb (by first | assumption | simp [go_sem, *])
  have s3 := kc ⟨w.heap.size + 1, 1, none⟩ (.int .u64 ql) hb (by first | assumption | simp [go_sem, *])
  have s4 := kc ⟨w.heap.size + 1 + 1, 0, none⟩ (.int .i64 0) hb (by first | assumption | simp [go_sem, *])
  have s5 := kc ⟨w.heap.size + 1 + 1, 1, none⟩ (.int .i64 0) hb (by first | assumption | simp [go_sem, *])
  have sf0 := kf ⟨w.heap.size + 1 + 1, 0, none⟩ (.int .i64 0) hb (by first | assumption | simp [go_sem, *]) (by first | assumption | simp [go_sem, *])
  have sf1 := kf ⟨w.heap.size + 1 + 1, 1, none⟩ (.int .i64 0) hb (by first | assumption | simp [go_sem, *]) (by first | assumption | simp [go_sem, *])
  have hB1 : Below w.heap.size w w1 := beyond (three w _ _ _) hb
  clear hb
  have l1 : w.heap.size + 1 + 1 < w1.heap.size := World.block_lt_of_cell? _ _ s4
  go_upto_region 4 with (fail)
  have t0 : (w1.alloc (.cells #[.int .u64 gh, .int .u64 gl] 54)).cell? ⟨w.heap.size, 0, none⟩ = some (.int .u64 ph) := kc _ _ (single _ _) s0
  have t1 : (w1.alloc (.cells #[.int .u64 gh, .int .u64 gl] 54)).cell? ⟨w.heap.size, 1, none⟩ = some (.int .u64 pl) := kc _ _ (single _ _) s1
  have t2 : (w1.alloc (.cells #[.int .u64 gh, .int .u64 gl] 54)).cell? ⟨w.heap.size + 1, 0, none⟩ = some (.int .u64 qh) := kc _ _ (single _ _) s2
  have t3 : (w1.alloc (.cells #[.int .u64 gh, .int .u64 gl] 54)).cell? ⟨w.heap.size + 1, 1, none⟩ = some (.int .u64 ql) := kc _ _ (single _ _) s3
  have t4 : (w1.alloc (.cells #[.int .u64 gh, .int .u64 gl] 54)).cell? ⟨w.heap.size + 1 + 1, 0, none⟩ = some (.int .i64 0) := kc _ _ (single _ _) s4
  have t5 : (w1.alloc (.cells #[.int .u64 gh, .int .u64 gl] 54)).cell? ⟨w.heap.size + 1 + 1, 1, none⟩ = some (.int .i64 0) := kc _ _ (single _ _) s5
  have tf0 : (w1.alloc (.cells #[.int .u64 gh, .int .u64 gl] 54)).frozen? ⟨w.heap.size + 1 + 1, 0, none⟩ = false := kf _ _ (single _ _) s4 sf0
  have tf1 : (w1.alloc (.cells #[.int .u64 gh, .int .u64 gl] 54)).frozen? ⟨w.heap.size + 1 + 1, 1, none⟩ = false := kf _ _ (single _ _) s5 sf1
  have tg0 : (w1.alloc (.cells #[.int .u64 gh, .int .u64 gl] 54)).cell? ⟨w1.heap.size, 0, none⟩ = some (.int .u64 gh) := new_cell w1 _ _ 0
  have tg1 : (w1.alloc (.cells #[.int .u64 gh, .int .u64 gl] 54)).cell? ⟨w1.heap.size, 1, none⟩ = some (.int .u64 gl) := new_cell w1 _ _ 1
  have hBG : Below w.heap.size w (w1.alloc (.cells #[.int .u64 gh, .int .u64 gl] 54)) := beyond hB1 (single _ _)
  clear s0 s1 s2 s3 s4 s5 sf0 sf1 hB1 HC
  generalize (w1.alloc (.cells #[.int .u64 gh, .int .u64 gl] 54)) = W1 at *
  generalize w1.heap.size = bg at *
  go_wp2_with fail
  refine (HD1.out _).mono ?_
  rintro e w2 ⟨rfl, hb⟩
  have u0 := kc _ _ hb t0
  have u1 := kc _ _ hb t1
  have u2 := kc _ _ hb t2
  have u3 := kc _ _ hb t3
  have u4 := kc _ _ hb t4
  have u5 := kc _ _ hb t5
  have uf0 := kf _ _ hb t4 tf0
  have uf1 := kf _ _ hb t5 tf1
  have ug0 := kc _ _ hb tg0
  have ug1 := kc _ _ hb tg1
  have hB2 : Below w.heap.size w w2 := beyond hBG hb
  clear hb t0 t1 t2 t3 t4 t5 tf0 tf1 tg0 tg1 hBG HD1
  go_upto_region 5 with (fail)
  have v0 : ((w2.alloc (.cells #[.int .u64 0, .int .u64 al] 54)).alloc (.cells #[.int .u64 xh, .int .u64 xl] 54)).cell? ⟨w.heap.size, 0, none⟩ = some (.int .u64 ph) := kc _ _ (two _ _ _) u0
  have v1 : ((w2.alloc (.cells #[.int .u64 0, .int .u64 al] 54)).alloc (.cells #[.int .u64 xh, .int .u64 xl] 54)).cell? ⟨w.heap.size, 1, none⟩ = some (.int .u64 pl) := kc _ _ (two _ _ _) u1
  have v2 : ((w2.alloc (.cells #[.int .u64 0, .int .u64 al] 54)).alloc (.cells #[.int .u64 xh, .int .u64 xl] 54)).cell? ⟨w.heap.size + 1, 0, none⟩ = some (.int .u64 qh) := kc _ _ (two _ _ _) u2
  have v3 : ((w2.alloc (.cells #[.int .u64 0, .int .u64 al] 54)).alloc (.cells #[.int .u64 xh, .int .u64 xl] 54)).cell? ⟨w.heap.size + 1, 1, none⟩ = some (.int .u64 ql) := kc _ _ (two _ _ _) u3
  have v4 : ((w2.alloc (.cells #[.int .u64 0, .int .u64 al] 54)).alloc (.cells #[.int .u64 xh, .int .u64 xl] 54)).cell? ⟨w.heap.size + 1 + 1, 0, none⟩ = some (.int .i64 0) := kc _ _ (two _ _ _) u4
  have v5 : ((w2.alloc (.cells #[.int .u64 0, .int .u64 al] 54)).alloc (.cells #[.int .u64 xh, .int .u64 xl] 54)).cell? ⟨w.heap.size + 1 + 1, 1, none⟩ = some (.int .i64 0) := kc _ _ (two _ _ _) u5
  have vf0 : ((w2.alloc (.cells #[.int .u64 0, .int .u64 al] 54)).alloc (.cells #[.int .u64 xh, .int .u64 xl] 54)).frozen? ⟨w.heap.size + 1 + 1, 0, none⟩ = false := kf _ _ (two _ _ _) u4 uf0
  have vf1 : ((w2.alloc (.cells #[.int .u64 0, .int .u64 al] 54)).alloc (.cells #[.int .u64 xh, .int .u64 xl] 54)).frozen? ⟨w.heap.size + 1 + 1, 1, none⟩ = false := kf _ _ (two _ _ _) u5 uf1
  have vg0 : ((w2.alloc (.cells #[.int .u64 0, .int .u64 al] 54)).alloc (.cells #[.int .u64 xh, .int .u64 xl] 54)).cell? ⟨bg, 0, none⟩ = some (.int .u64 gh) := kc _ _ (two _ _ _) ug0
  have vg1 : ((w2.alloc (.cells #[.int .u64 0, .int .u64 al] 54)).alloc (.cells #[.int .u64 xh, .int .u64 xl] 54)).cell? ⟨bg, 1, none⟩ = some (.int .u64 gl) := kc _ _ (two _ _ _) ug1
  have vn0 : ((w2.alloc (.cells #[.int .u64 0, .int .u64 al] 54)).alloc (.cells #[.int .u64 xh, .int .u64 xl] 54)).cell? ⟨w2.heap.size, 0, none⟩ = some (.int .u64 0) := newC3 w2 _ _ _ 0
  have vn1 : ((w2.alloc (.cells #[.int .u64 0, .int .u64 al] 54)).alloc (.cells #[.int .u64 xh, .int .u64 xl] 54)).cell? ⟨w2.heap.size, 1, none⟩ = some (.int .u64 al) := newC3 w2 _ _ _ 1
  have hB3 : Below w.heap.size w ((w2.alloc (.cells #[.int .u64 0, .int .u64 al] 54)).alloc (.cells #[.int .u64 xh, .int .u64 xl] 54)) := beyond hB2 (two _ _ _)
  clear u0 u1 u2 u3 u4 u5 uf0 uf1 ug0 ug1 hB2
  generalize ((w2.alloc (.cells #[.int .u64 0, .int .u64 al] 54)).alloc (.cells #[.int .u64 xh, .int .u64 xl] 54)) = W2 at *
  generalize w2.heap.size = bn at *
  go_wp2_with fail
  refine (HD2.out _).mono ?_
  rintro e w3 ⟨rfl, hb⟩
  have u4 := kc _ _ hb v4
  have u5 := kc _ _ hb v5
  have uf0 := kf _ _ hb v4 vf0
  have uf1 := kf _ _ hb v5 vf1
  have un0 := kc _ _ hb vn0
  have un1 := kc _ _ hb vn1
  have hB4 : Below w.heap.size w w3 := beyond hB3 hb
  clear hb v0 v1 v2 v3 v4 v5 vf0 vf1 vg0 vg1 vn0 vn1 hB3 HD2 hq
  go_upto_region 6 with (fail)
  have x4 : ((w3.alloc (.cells #[.int .u64 bh, .int .u64 bl] 54)).alloc (.cells #[.int .u64 yh, .int .u64 yl] 54)).cell? ⟨w.heap.size + 1 + 1, 0, none⟩ = some (.int .i64 0) := kc _ _ (two _ _ _) u4
  have x5 : ((w3.alloc (.cells #[.int .u64 bh, .int .u64 bl] 54)).alloc (.cells #[.int .u64 yh, .int .u64 yl] 54)).cell? ⟨w.heap.size + 1 + 1, 1, none⟩ = some (.int .i64 0) := kc _ _ (two _ _ _) u5
  have xf0 : ((w3.alloc (.cells #[.int .u64 bh, .int .u64 bl] 54)).alloc (.cells #[.int .u64 yh, .int .u64 yl] 54)).frozen? ⟨w.heap.size + 1 + 1, 0, none⟩ = false := kf _ _ (two _ _ _) u4 uf0
  have xf1 : ((w3.alloc (.cells #[.int .u64 bh, .int .u64 bl] 54)).alloc (.cells #[.int .u64 yh, .int .u64 yl] 54)).frozen? ⟨w.heap.size + 1 + 1, 1, none⟩ = false := kf _ _ (two _ _ _) u5 uf1
  have xn0 : ((w3.alloc (.cells #[.int .u64 bh, .int .u64 bl] 54)).alloc (.cells #[.int .u64 yh, .int .u64 yl] 54)).cell? ⟨bn, 0, none⟩ = some (.int .u64 0) := kc _ _ (two _ _ _) un0
  have xn1 : ((w3.alloc (.cells #[.int .u64 bh, .int .u64 bl] 54)).alloc (.cells #[.int .u64 yh, .int .u64 yl] 54)).cell? ⟨bn, 1, none⟩ = some (.int .u64 al) := kc _ _ (two _ _ _) un1
  have xd0 : ((w3.alloc (.cells #[.int .u64 bh, .int .u64 bl] 54)).alloc (.cells #[.int .u64 yh, .int .u64 yl] 54)).cell? ⟨w3.heap.size, 0, none⟩ = some (.int .u64 bh) := newC3 w3 _ _ _ 0
  have xd1 : ((w3.alloc (.cells #[.int .u64 bh, .int .u64 bl] 54)).alloc (.cells #[.int .u64 yh, .int .u64 yl] 54)).cell? ⟨w3.heap.size, 1, none⟩ = some (.int .u64 bl) := newC3 w3 _ _ _ 1
  have hB5 : Below w.heap.size w ((w3.alloc (.cells #[.int .u64 bh, .int .u64 bl] 54)).alloc (.cells #[.int .u64 yh, .int .u64 yl] 54)) := beyond hB4 (two _ _ _)
  clear u4 u5 uf0 uf1 un0 un1 hB4
  generalize ((w3.alloc (.cells #[.int .u64 bh, .int .u64 bl] 54)).alloc (.cells #[.int .u64 yh, .int .u64 yl] 54)) = W3 at *
  generalize w3.heap.size = bd at *
  have y4 : ∀ O, (W3.alloc O).cell? ⟨w.heap.size + 1 + 1, 0, none⟩ = some (.int .i64 0) := fun O => kc _ _ (single _ _) x4
  have y5 : ∀ O, (W3.alloc O).cell? ⟨w.heap.size + 1 + 1, 1, none⟩ = some (.int .i64 0) := fun O => kc _ _ (single _ _) x5
  have yn0 : ∀ O, (W3.alloc O).cell? ⟨bn, 0, none⟩ = some (.int .u64 0) := fun O => kc _ _ (single _ _) xn0
  have yn1 : ∀ O, (W3.alloc O).cell? ⟨bn, 1, none⟩ = some (.int .u64 al) := fun O => kc _ _ (single _ _) xn1
  have yf0 : ∀ O, (W3.alloc O).frozen? ⟨w.heap.size + 1 + 1, 0, none⟩ = false := fun O => kf _ _ (single _ _) x4 xf0
  have yf1 : ∀ O, (W3.alloc O).frozen? ⟨w.heap.size + 1 + 1, 1, none⟩ = false := fun O => kf _ _ (single _ _) x5 xf1
  have l3 : w.heap.size + 1 + 1 < W3.heap.size := World.block_lt_of_cell? _ _ x4
  have l4 : bn < W3.heap.size := World.block_lt_of_cell? _ _ xn0
  have m1 : ¬ W3.heap.size = w.heap.size + 1 + 1 := by omega
  have m2 : ¬ w.heap.size + 1 + 1 = W3.heap.size := by omega
  have m3 : ¬ W3.heap.size = bn := by omega
  have m4 : ¬ bn = W3.heap.size := by omega
  have HB6 := hideR (show ∀ O, Below w.heap.size w (W3.alloc O) from fun O => beyond hB5 (single _ _))
  have HB5 := hideR hB5
  clear l1 l3 l4 hB5
  go_wp2_with fail
  refine bodyPost_ret (v := trip (0, 0, 20)) (by simp [results, Tryd.results38, go_sem, *]) rfl ⟨rfl, ?_⟩
  first | exact set2 HB5.out (by omega) _ _ | exact set2 (HB6.out _) (by omega) _ _ | exact HB5.out | (refine set2 (Below.setCell (HB6.out _) ?_ _) (by omega) _ _; have := (HB6.out default).size; simp at this; omega) | trace_state
set_option maxRecDepth 100000 in
set_option maxHeartbeats 8000000 in
theorem xheld_h_true_f4 (ph pl qh ql gh gl al bl xh xl yh yl : Int) (w : World) (hq : ¬ qh = 0) (e2 : ¬ 9223372036854775808 < al) (hc : 9223372036854775807 < bl)
    (HC : Hid (∀ w, Calls Tryd.prog 42 #[.agg #[.int .u64 ph, .int .u64 pl], .agg #[.int .u64 qh, .int .u64 ql]] w fun e w' => e = .returned (.agg #[.int .u64 gh, .int .u64 gl]) ∧ Below w.heap.size w w'))
    (HD1 : Hid (∀ w, Calls Tryd.prog 65 #[.agg #[.int .u64 ph, .int .u64 pl], .agg #[.int .u64 gh, .int .u64 gl]] w fun e w' => e = .returned (.tuple #[.agg #[.int .u64 0, .int .u64 al], .agg #[.int .u64 xh, .int .u64 xl]]) ∧ Below w.heap.size w w'))
    (HD2 : Hid (∀ w, Calls Tryd.prog 65 #[.agg #[.int .u64 qh, .int .u64 ql], .agg #[.int .u64 gh, .int .u64 gl]] w fun e w' => e = .returned (.tuple #[.agg #[.int .u64 0, .int .u64 bl], .agg #[.int .u64 yh, .int .u64 yl]]) ∧ Below w.heap.size w w')) :
    Calls Tryd.prog 38 #[.bool true, .agg #[.int .u64 ph, .int .u64 pl], .agg #[.int .u64 qh, .int .u64 ql]] w fun e w' => e = .returned (trip (0, 0, 20)) ∧ Below w.heap.size w w' := by
  have n1 : ¬ w.heap.size = w.heap.size + 1 + 1 := by omega
  have n2 : ¬ w.heap.size + 1 + 1 = w.heap.size := by omega
  go_enter Tryd.func38, Tryd.ntmps38
  go_wp2_with fail
  refine (HC.out _).mono ?_
  rintro e w1 ⟨rfl, hb⟩
  have s0 := kc ⟨w.heap.size, 0, none⟩ (.int .u64 ph) hb (by first | assumption | simp [go_sem, *])
  have s1 := kc ⟨w.heap.size, 1, none⟩ (.int .u64 pl) hb (by first | assumption | simp [go_sem, *])
  have s2 := kc ⟨w.heap.size + 1, 0, none⟩ (.int .u64 qh) hb (by first | assumption | simp [go_sem, *])
  have s3 := kc ⟨w.heap.size + 1, 1, none⟩ (.int .u64 ql) hb (by first | assumption | simp [go_sem, *])
  have s4 := kc ⟨w.heap.size + 1 + 1, 0, none⟩ (.int .i64 0) hb (by first | assumption | simp [go_sem, *])
  have s5 := kc ⟨w.heap.size + 1 + 1, 1, none⟩ (.int .i64 0) hb (by first | assumption | simp [go_sem, *])
  have sf0 := kf ⟨w.heap.size + 1 + 1, 0, none⟩ (.int .i64 0) hb (by first | assumption | simp [go_sem, *]) (by first | assumption | simp [go_sem, *])
  have sf1 := kf ⟨w.heap.size + 1 + 1, 1, none⟩ (.int .i64 0) hb (by first | assumption | simp [go_sem, *]) (by first | assumption | simp [go_sem, *])
  have hB1 : Below w.heap.size w w1 := beyond (three w _ _ _) hb
  clear hb
  have l1 : w.heap.size + 1 + 1 < w1.heap.size := World.block_lt_of_cell? _ _ s4
  go_upto_region 4 with (fail)
  have t0 : (w1.alloc (.cells #[.int .u64 gh, .int .u64 gl] 54)).cell? ⟨w.heap.size, 0, none⟩ = some (.int .u64 ph) := kc _ _ (single _ _) s0
  have t1 : (w1.alloc (.cells #[.int .u64 gh, .int .u64 gl] 54)).cell? ⟨w.heap.size, 1, none⟩ = some (.int .u64 pl) := kc _ _ (single _ _) s1
  have t2 : (w1.alloc (.cells #[.int .u64 gh, .int .u64 gl] 54)).cell? ⟨w.heap.size + 1, 0, none⟩ = some (.int .u64 qh) := kc _ _ (single _ _) s2
  have t3 : (w1.alloc (.cells #[.int .u64 gh, .int .u64 gl] 54)).cell? ⟨w.heap.size + 1, 1, none⟩ = some (.int .u64 ql) := kc _ _ (single _ _) s3
  have t4 : (w1.alloc (.cells #[.int .u64 gh, .int .u64 gl] 54)).cell? ⟨w.heap.size + 1 + 1, 0, none⟩ = some (.int .i64 0) := kc _ _ (single _ _) s4
  have t5 : (w1.alloc (.cells #[.int .u64 gh, .int .u64 gl] 54)).cell? ⟨w.heap.size + 1 + 1, 1, none⟩ = some (.int .i64 0) := kc _ _ (single _ _) s5
  have tf0 : (w1.alloc (.cells #[.int .u64 gh, .int .u64 gl] 54)).frozen? ⟨w.heap.size + 1 + 1, 0, none⟩ = false := kf _ _ (single _ _) s4 sf0
  have tf1 : (w1.alloc (.cells #[.int .u64 gh, .int .u64 gl] 54)).frozen? ⟨w.heap.size + 1 + 1, 1, none⟩ = false := kf _ _ (single _ _) s5 sf1
  have tg0 : (w1.alloc (.cells #[.int .u64 gh, .int .u64 gl] 54)).cell? ⟨w1.heap.size, 0, none⟩ = some (.int .u64 gh) := new_cell w1 _ _ 0
  have tg1 : (w1.alloc (.cells #[.int .u64 gh, .int .u64 gl] 54)).cell? ⟨w1.heap.size, 1, none⟩ = some (.int .u64 gl) := new_cell w1 _ _ 1
  have hBG : Below w.heap.size w (w1.alloc (.cells #[.int .u64 gh, .int .u64 gl] 54)) := beyond hB1 (single _ _)
  clear s0 s1 s2 s3 s4 s5 sf0 sf1 hB1 HC
  generalize (w1.alloc (.cells #[.int .u64 gh, .int .u64 gl] 54)) = W1 at *
  generalize w1.heap.size = bg at *
  go_wp2_with fail
  refine (HD1.out _).mono ?_
  rintro e w2 ⟨rfl, hb⟩
  have u0 := kc _ _ hb t0
  have u1 := kc _ _ hb t1
  have u2 := kc _ _ hb t2
  have u3 := kc _ _ hb t3
  have u4 := kc _ _ hb t4
  have u5 := kc _ _ hb t5
  have uf0 := kf _ _ hb t4 tf0
  have uf1 := kf _ _ hb t5 tf1
  have ug0 := kc _ _ hb tg0
  have ug1 := kc _ _ hb tg1
  have hB2 : Below w.heap.size w w2 := beyond hBG hb
  clear hb t0 t1 t2 t3 t4 t5 tf0 tf1 tg0 tg1 hBG HD1
  go_upto_region 5 with (fail)
  have v0 : ((w2.alloc (.cells #[.int .u64 0, .int .u64 al] 54)).alloc (.cells #[.int .u64 xh, .int .u64 xl] 54)).cell? ⟨w.heap.size, 0, none⟩ = some (.int .u64 ph) := kc _ _ (two _ _ _) u0
  have v1 : ((w2.alloc (.cells #[.int .u64 0, .int .u64 al] 54)).alloc (.cells #[.int .u64 xh, .int .u64 xl] 54)).cell? ⟨w.heap.size, 1, none⟩ = some (.int .u64 pl) := kc _ _ (two _ _ _) u1
  have v2 : ((w2.alloc (.cells #[.int .u64 0, .int .u64 al] 54)).alloc (.cells #[.int .u64 xh, .int .u64 xl] 54)).cell? ⟨w.heap.size + 1, 0, none⟩ = some (.int .u64 qh) := kc _ _ (two _ _ _) u2
  have v3 : ((w2.alloc (.cells #[.int .u64 0, .int .u64 al] 54)).alloc (.cells #[.int .u64 xh, .int .u64 xl] 54)).cell? ⟨w.heap.size + 1, 1, none⟩ = some (.int .u64 ql) := kc _ _ (two _ _ _) u3
  have v4 : ((w2.alloc (.cells #[.int .u64 0, .int .u64 al] 54)).alloc (.cells #[.int .u64 xh, .int .u64 xl] 54)).cell? ⟨w.heap.size + 1 + 1, 0, none⟩ = some (.int .i64 0) := kc _ _ (two _ _ _) u4
  have v5 : ((w2.alloc (.cells #[.int .u64 0, .int .u64 al] 54)).alloc (.cells #[.int .u64 xh, .int .u64 xl] 54)).cell? ⟨w.heap.size + 1 + 1, 1, none⟩ = some (.int .i64 0) := kc _ _ (two _ _ _) u5
  have vf0 : ((w2.alloc (.cells #[.int .u64 0, .int .u64 al] 54)).alloc (.cells #[.int .u64 xh, .int .u64 xl] 54)).frozen? ⟨w.heap.size + 1 + 1, 0, none⟩ = false := kf _ _ (two _ _ _) u4 uf0
  have vf1 : ((w2.alloc (.cells #[.int .u64 0, .int .u64 al] 54)).alloc (.cells #[.int .u64 xh, .int .u64 xl] 54)).frozen? ⟨w.heap.size + 1 + 1, 1, none⟩ = false := kf _ _ (two _ _ _) u5 uf1
  have vg0 : ((w2.alloc (.cells #[.int .u64 0, .int .u64 al] 54)).alloc (.cells #[.int .u64 xh, .int .u64 xl] 54)).cell? ⟨bg, 0, none⟩ = some (.int .u64 gh) := kc _ _ (two _ _ _) ug0
  have vg1 : ((w2.alloc (.cells #[.int .u64 0, .int .u64 al] 54)).alloc (.cells #[.int .u64 xh, .int .u64 xl] 54)).cell? ⟨bg, 1, none⟩ = some (.int .u64 gl) := kc _ _ (two _ _ _) ug1
  have vn0 : ((w2.alloc (.cells #[.int .u64 0, .int .u64 al] 54)).alloc (.cells #[.int .u64 xh, .int .u64 xl] 54)).cell? ⟨w2.heap.size, 0, none⟩ = some (.int .u64 0) := newC3 w2 _ _ _ 0
  have vn1 : ((w2.alloc (.cells #[.int .u64 0, .int .u64 al] 54)).alloc (.cells #[.int .u64 xh, .int .u64 xl] 54)).cell? ⟨w2.heap.size, 1, none⟩ = some (.int .u64 al) := newC3 w2 _ _ _ 1
  have hB3 : Below w.heap.size w ((w2.alloc (.cells #[.int .u64 0, .int .u64 al] 54)).alloc (.cells #[.int .u64 xh, .int .u64 xl] 54)) := beyond hB2 (two _ _ _)
  clear u0 u1 u2 u3 u4 u5 uf0 uf1 ug0 ug1 hB2
  generalize ((w2.alloc (.cells #[.int .u64 0, .int .u64 al] 54)).alloc (.cells #[.int .u64 xh, .int .u64 xl] 54)) = W2 at *
  generalize w2.heap.size = bn at *
  go_wp2_with fail
  refine (HD2.out _).mono ?_
  rintro e w3 ⟨rfl, hb⟩
  have u4 := kc _ _ hb v4
  have u5 := kc _ _ hb v5
  have uf0 := kf _ _ hb v4 vf0
  have uf1 := kf _ _ hb v5 vf1
  have un0 := kc _ _ hb vn0
  have un1 := kc _ _ hb vn1
  have hB4 : Below w.heap.size w w3 := beyond hB3 hb
  clear hb v0 v1 v2 v3 v4 v5 vf0 vf1 vg0 vg1 vn0 vn1 hB3 HD2 hq
  go_upto_region 6 with (fail)
  have x4 : ((w3.alloc (.cells #[.int .u64 0, .int .u64 bl] 54)).alloc (.cells #[.int .u64 yh, .int .u64 yl] 54)).cell? ⟨w.heap.size + 1 + 1, 0, none⟩ = some (.int .i64 0) := kc _ _ (two _ _ _) u4
  have x5 : ((w3.alloc (.cells #[.int .u64 0, .int .u64 bl] 54)).alloc (.cells #[.int .u64 yh, .int .u64 yl] 54)).cell? ⟨w.heap.size + 1 + 1, 1, none⟩ = some (.int .i64 0) := kc _ _ (two _ _ _) u5
  have xf0 : ((w3.alloc (.cells #[.int .u64 0, .int .u64 bl] 54)).alloc (.cells #[.int .u64 yh, .int .u64 yl] 54)).frozen? ⟨w.heap.size + 1 + 1, 0, none⟩ = false := kf _ _ (two _ _ _) u4 uf0
  have xf1 : ((w3.alloc (.cells #[.int .u64 0, .int .u64 bl] 54)).alloc (.cells #[.int .u64 yh, .int .u64 yl] 54)).frozen? ⟨w.heap.size + 1 + 1, 1, none⟩ = false := kf _ _ (two _ _ _) u5 uf1
  have xn0 : ((w3.alloc (.cells #[.int .u64 0, .int .u64 bl] 54)).alloc (.cells #[.int .u64 yh, .int .u64 yl] 54)).cell? ⟨bn, 0, none⟩ = some (.int .u64 0) := kc _ _ (two _ _ _) un0
  have xn1 : ((w3.alloc (.cells #[.int .u64 0, .int .u64 bl] 54)).alloc (.cells #[.int .u64 yh, .int .u64 yl] 54)).cell? ⟨bn, 1, none⟩ = some (.int .u64 al) := kc _ _ (two _ _ _) un1
  have xd0 : ((w3.alloc (.cells #[.int .u64 0, .int .u64 bl] 54)).alloc (.cells #[.int .u64 yh, .int .u64 yl] 54)).cell? ⟨w3.heap.size, 0, none⟩ = some (.int .u64 0) := newC3 w3 _ _ _ 0
  have xd1 : ((w3.alloc (.cells #[.int .u64 0, .int .u64 bl] 54)).alloc (.cells #[.int .u64 yh, .int .u64 yl] 54)).cell? ⟨w3.heap.size, 1, none⟩ = some (.int .u64 bl) := newC3 w3 _ _ _ 1
  have hB5 : Below w.heap.size w ((w3.alloc (.cells #[.int .u64 0, .int .u64 bl] 54)).alloc (.cells #[.int .u64 yh, .int .u64 yl] 54)) := beyond hB4 (two _ _ _)
  clear u4 u5 uf0 uf1 un0 un1 hB4
  generalize ((w3.alloc (.cells #[.int .u64 0, .int .u64 bl] 54)).alloc (.cells #[.int .u64 yh, .int .u64 yl] 54)) = W3 at *
  generalize w3.heap.size = bd at *
  have y4 : ∀ O, (W3.alloc O).cell? ⟨w.heap.size + 1 + 1, 0, none⟩ = some (.int .i64 0) := fun O => kc _ _ (single _ _) x4
  have y5 : ∀ O, (W3.alloc O).cell? ⟨w.heap.size + 1 + 1, 1, none⟩ = some (.int .i64 0) := fun O => kc _ _ (single _ _) x5
  have yn0 : ∀ O, (W3.alloc O).cell? ⟨bn, 0, none⟩ = some (.int .u64 0) := fun O => kc _ _ (single _ _) xn0
  have yn1 : ∀ O, (W3.alloc O).cell? ⟨bn, 1, none⟩ = some (.int .u64 al) := fun O => kc _ _ (single _ _) xn1
  have yf0 : ∀ O, (W3.alloc O).frozen? ⟨w.heap.size + 1 + 1, 0, none⟩ = false := fun O => kf _ _ (single _ _) x4 xf0
  have yf1 : ∀ O, (W3.alloc O).frozen? ⟨w.heap.size + 1 + 1, 1, none⟩ = false := fun O => kf _ _ (single _ _) x5 xf1
  have l3 : w.heap.size + 1 + 1 < W3.heap.size := World.block_lt_of_cell? _ _ x4
  have l4 : bn < W3.heap.size := World.block_lt_of_cell? _ _ xn0
  have m1 : ¬ W3.heap.size = w.heap.size + 1 + 1 := by omega
  have m2 : ¬ w.heap.size + 1 + 1 = W3.heap.size := by omega
  have m3 : ¬ W3.heap.size = bn := by omega
  have m4 : ¬ bn = W3.heap.size := by omega
  have HB6 := hideR (show ∀ O, Below w.heap.size w (W3.alloc O) from fun O => beyond hB5 (single _ _))
  have HB5 := hideR hB5
  clear l1 l3 l4 hB5
  go_wp2_with fail
  refine bodyPost_ret (v := trip (0, 0, 20)) (by simp [results, Tryd.results38, go_sem, *]) rfl ⟨rfl, ?_⟩
  first | exact set2 HB5.out (by omega) _ _ | exact set2 (HB6.out _) (by omega) _ _ | exact HB5.out | (refine set2 (Below.setCell (HB6.out _) ?_ _) (by omega) _ _; have := (HB6.out default).size; simp at this; omega) | trace_state
set_option maxRecDepth 100000 in
set_option maxHeartbeats 8000000 in
theorem xheld_h_true_ok (ph pl qh ql gh gl al bl xh xl yh yl : Int) (w : World) (hq : ¬ qh = 0) (nn : Int) (e2 : ¬ 9223372036854775808 < al) (hc : ¬ 9223372036854775807 < bl) (z1 : IntKind.i64.wrap bl = bl) (z2 : IntKind.i64.wrap (IntKind.u64.wrap (-al)) = nn)
    (HC : Hid (∀ w, Calls Tryd.prog 42 #[.agg #[.int .u64 ph, .int .u64 pl], .agg #[.int .u64 qh, .int .u64 ql]] w fun e w' => e = .returned (.agg #[.int .u64 gh, .int .u64 gl]) ∧ Below w.heap.size w w'))
    (HD1 : Hid (∀ w, Calls Tryd.prog 65 #[.agg #[.int .u64 ph, .int .u64 pl], .agg #[.int .u64 gh, .int .u64 gl]] w fun e w' => e = .returned (.tuple #[.agg #[.int .u64 0, .int .u64 al], .agg #[.int .u64 xh, .int .u64 xl]]) ∧ Below w.heap.size w w'))
    (HD2 : Hid (∀ w, Calls Tryd.prog 65 #[.agg #[.int .u64 qh, .int .u64 ql], .agg #[.int .u64 gh, .int .u64 gl]] w fun e w' => e = .returned (.tuple #[.agg #[.int .u64 0, .int .u64 bl], .agg #[.int .u64 yh, .int .u64 yl]]) ∧ Below w.heap.size w w')) :
    Calls Tryd.prog 38 #[.bool true, .agg #[.int .u64 ph, .int .u64 pl], .agg #[.int .u64 qh, .int .u64 ql]] w fun e w' => e = .returned (trip (nn, bl, 0)) ∧ Below w.heap.size w w' := by
  have n1 : ¬ w.heap.size = w.heap.size + 1 + 1 := by omega
  have n2 : ¬ w.heap.size + 1 + 1 = w.heap.size := by omega
  go_enter Tryd.func38, Tryd.ntmps38
  go_wp2_with fail
  refine (HC.out _).mono ?_
  rintro e w1 ⟨rfl, hb⟩
  have s0 := kc ⟨w.heap.size, 0, none⟩ (.int .u64 ph) hb (by first | assumption | simp [go_sem, *])
  have s1 := kc ⟨w.heap.size, 1, none⟩ (.int .u64 pl) hb (by first | assumption | simp [go_sem, *])
  have s2 := kc ⟨w.heap.size + 1, 0, none⟩ (.int .u64 qh) hb (by first | assumption | simp [go_sem, *])
  have s3 := kc ⟨w.heap.size + 1, 1, none⟩ (.int .u64 ql) hb (by first | assumption | simp [go_sem, *])
  have s4 := kc ⟨w.heap.size + 1 + 1, 0, none⟩ (.int .i64 0) hb (by first | assumption | simp [go_sem, *])
  have s5 := kc ⟨w.heap.size + 1 + 1, 1, none⟩ (.int .i64 0) hb (by first | assumption | simp [go_sem, *])
  have sf0 := kf ⟨w.heap.size + 1 + 1, 0, none⟩ (.int .i64 0) hb (by first | assumption | simp [go_sem, *]) (by first | assumption | simp [go_sem, *])
  have sf1 := kf ⟨w.heap.size + 1 + 1, 1, none⟩ (.int .i64 0) hb (by first | assumption | simp [go_sem, *]) (by first | assumption | simp [go_sem, *])
  have hB1 : Below w.heap.size w w1 := beyond (three w _ _ _) hb
  clear hb
  have l1 : w.heap.size + 1 + 1 < w1.heap.size := World.block_lt_of_cell? _ _ s4
  go_upto_region 4 with (fail)
  have t0 : (w1.alloc (.cells #[.int .u64 gh, .int .u64 gl] 54)).cell? ⟨w.heap.size, 0, none⟩ = some (.int .u64 ph) := kc _ _ (single _ _) s0
  have t1 : (w1.alloc (.cells #[.int .u64 gh, .int .u64 gl] 54)).cell? ⟨w.heap.size, 1, none⟩ = some (.int .u64 pl) := kc _ _ (single _ _) s1
  have t2 : (w1.alloc (.cells #[.int .u64 gh, .int .u64 gl] 54)).cell? ⟨w.heap.size + 1, 0, none⟩ = some (.int .u64 qh) := kc _ _ (single _ _) s2
  have t3 : (w1.alloc (.cells #[.int .u64 gh, .int .u64 gl] 54)).cell? ⟨w.heap.size + 1, 1, none⟩ = some (.int .u64 ql) := kc _ _ (single _ _) s3
  have t4 : (w1.alloc (.cells #[.int .u64 gh, .int .u64 gl] 54)).cell? ⟨w.heap.size + 1 + 1, 0, none⟩ = some (.int .i64 0) := kc _ _ (single _ _) s4
  have t5 : (w1.alloc (.cells #[.int .u64 gh, .int .u64 gl] 54)).cell? ⟨w.heap.size + 1 + 1, 1, none⟩ = some (.int .i64 0) := kc _ _ (single _ _) s5
  have tf0 : (w1.alloc (.cells #[.int .u64 gh, .int .u64 gl] 54)).frozen? ⟨w.heap.size + 1 + 1, 0, none⟩ = false := kf _ _ (single _ _) s4 sf0
  have tf1 : (w1.alloc (.cells #[.int .u64 gh, .int .u64 gl] 54)).frozen? ⟨w.heap.size + 1 + 1, 1, none⟩ = false := kf _ _ (single _ _) s5 sf1
  have tg0 : (w1.alloc (.cells #[.int .u64 gh, .int .u64 gl] 54)).cell? ⟨w1.heap.size, 0, none⟩ = some (.int .u64 gh) := new_cell w1 _ _ 0
  have tg1 : (w1.alloc (.cells #[.int .u64 gh, .int .u64 gl] 54)).cell? ⟨w1.heap.size, 1, none⟩ = some (.int .u64 gl) := new_cell w1 _ _ 1
  have hBG : Below w.heap.size w (w1.alloc (.cells #[.int .u64 gh, .int .u64 gl] 54)) := beyond hB1 (single _ _)
  clear s0 s1 s2 s3 s4 s5 sf0 sf1 hB1 HC
  generalize (w1.alloc (.cells #[.int .u64 gh, .int .u64 gl] 54)) = W1 at *
  generalize w1.heap.size = bg at *
  go_wp2_with fail
  refine (HD1.out _).mono ?_
  rintro e w2 ⟨rfl, hb⟩
  have u0 := kc _ _ hb t0
  have u1 := kc _ _ hb t1
  have u2 := kc _ _ hb t2
  have u3 := kc _ _ hb t3
  have u4 := kc _ _ hb t4
  have u5 := kc _ _ hb t5
  have uf0 := kf _ _ hb t4 tf0
  have uf1 := kf _ _ hb t5 tf1
  have ug0 := kc _ _ hb tg0
  have ug1 := kc _ _ hb tg1
  have hB2 : Below w.heap.size w w2 := beyond hBG hb
  clear hb t0 t1 t2 t3 t4 t5 tf0 tf1 tg0 tg1 hBG HD1
  go_upto_region 5 with (fail)
  have v0 : ((w2.alloc (.cells #[.int .u64 0, .int .u64 al] 54)).alloc (.cells #[.int .u64 xh, .int .u64 xl] 54)).cell? ⟨w.heap.size, 0, none⟩ = some (.int .u64 ph) := kc _ _ (two _ _ _) u0
  have v1 : ((w2.alloc (.cells #[.int .u64 0, .int .u64 al] 54)).alloc (.cells #[.int .u64 xh, .int .u64 xl] 54)).cell? ⟨w.heap.size, 1, none⟩ = some (.int .u64 pl) := kc _ _ (two _ _ _) u1
  have v2 : ((w2.alloc (.cells #[.int .u64 0, .int .u64 al] 54)).alloc (.cells #[.int .u64 xh, .int .u64 xl] 54)).cell? ⟨w.heap.size + 1, 0, none⟩ = some (.int .u64 qh) := kc _ _ (two _ _ _) u2
  have v3 : ((w2.alloc (.cells #[.int .u64 0, .int .u64 al] 54)).alloc (.cells #[.int .u64 xh, .int .u64 xl] 54)).cell? ⟨w.heap.size + 1, 1, none⟩ = some (.int .u64 ql) := kc _ _ (two _ _ _) u3
  have v4 : ((w2.alloc (.cells #[.int .u64 0, .int .u64 al] 54)).alloc (.cells #[.int .u64 xh, .int .u64 xl] 54)).cell? ⟨w.heap.size + 1 + 1, 0, none⟩ = some (.int .i64 0) := kc _ _ (two _ _ _) u4
  have v5 : ((w2.alloc (.cells #[.int .u64 0, .int .u64 al] 54)).alloc (.cells #[.int .u64 xh, .int .u64 xl] 54)).cell? ⟨w.heap.size + 1 + 1, 1, none⟩ = some (.int .i64 0) := kc _ _ (two _ _ _) u5
  have vf0 : ((w2.alloc (.cells #[.int .u64 0, .int .u64 al] 54)).alloc (.cells #[.int .u64 xh, .int .u64 xl] 54)).frozen? ⟨w.heap.size + 1 + 1, 0, none⟩ = false := kf _ _ (two _ _ _) u4 uf0
  have vf1 : ((w2.alloc (.cells #[.int .u64 0, .int .u64 al] 54)).alloc (.cells #[.int .u64 xh, .int .u64 xl] 54)).frozen? ⟨w.heap.size + 1 + 1, 1, none⟩ = false := kf _ _ (two _ _ _) u5 uf1
  have vg0 : ((w2.alloc (.cells #[.int .u64 0, .int .u64 al] 54)).alloc (.cells #[.int .u64 xh, .int .u64 xl] 54)).cell? ⟨bg, 0, none⟩ = some (.int .u64 gh) := kc _ _ (two _ _ _) ug0
  have vg1 : ((w2.alloc (.cells #[.int .u64 0, .int .u64 al] 54)).alloc (.cells #[.int .u64 xh, .int .u64 xl] 54)).cell? ⟨bg, 1, none⟩ = some (.int .u64 gl) := kc _ _ (two _ _ _) ug1
  have vn0 : ((w2.alloc (.cells #[.int .u64 0, .int .u64 al] 54)).alloc (.cells #[.int .u64 xh, .int .u64 xl] 54)).cell? ⟨w2.heap.size, 0, none⟩ = some (.int .u64 0) := newC3 w2 _ _ _ 0
  have vn1 : ((w2.alloc (.cells #[.int .u64 0, .int .u64 al] 54)).alloc (.cells #[.int .u64 xh, .int .u64 xl] 54)).cell? ⟨w2.heap.size, 1, none⟩ = some (.int .u64 al) := newC3 w2 _ _ _ 1
  have hB3 : Below w.heap.size w ((w2.alloc (.cells #[.int .u64 0, .int .u64 al] 54)).alloc (.cells #[.int .u64 xh, .int .u64 xl] 54)) := beyond hB2 (two _ _ _)
  clear u0 u1 u2 u3 u4 u5 uf0 uf1 ug0 ug1 hB2
  generalize ((w2.alloc (.cells #[.int .u64 0, .int .u64 al] 54)).alloc (.cells #[.int .u64 xh, .int .u64 xl] 54)) = W2 at *
  generalize w2.heap.size = bn at *
  go_wp2_with fail
  refine (HD2.out _).mono ?_
  rintro e w3 ⟨rfl, hb⟩
  have u4 := kc _ _ hb v4
  have u5 := kc _ _ hb v5
  have uf0 := kf _ _ hb v4 vf0
  have uf1 := kf _ _ hb v5 vf1
  have un0 := kc _ _ hb vn0
  have un1 := kc _ _ hb vn1
  have hB4 : Below w.heap.size w w3 := beyond hB3 hb
  clear hb v0 v1 v2 v3 v4 v5 vf0 vf1 vg0 vg1 vn0 vn1 hB3 HD2 hq
  go_upto_region 6 with (fail)
  have x4 : ((w3.alloc (.cells #[.int .u64 0, .int .u64 bl] 54)).alloc (.cells #[.int .u64 yh, .int .u64 yl] 54)).cell? ⟨w.heap.size + 1 + 1, 0, none⟩ = some (.int .i64 0) := kc _ _ (two _ _ _) u4
  have x5 : ((w3.alloc (.cells #[.int .u64 0, .int .u64 bl] 54)).alloc (.cells #[.int .u64 yh, .int .u64 yl] 54)).cell? ⟨w.heap.size + 1 + 1, 1, none⟩ = some (.int .i64 0) := kc _ _ (two _ _ _) u5
  have xf0 : ((w3.alloc (.cells #[.int .u64 0, .int .u64 bl] 54)).alloc (.cells #[.int .u64 yh, .int .u64 yl] 54)).frozen? ⟨w.heap.size + 1 + 1, 0, none⟩ = false := kf _ _ (two _ _ _) u4 uf0
  have xf1 : ((w3.alloc (.cells #[.int .u64 0, .int .u64 bl] 54)).alloc (.cells #[.int .u64 yh, .int .u64 yl] 54)).frozen? ⟨w.heap.size + 1 + 1, 1, none⟩ = false := kf _ _ (two _ _ _) u5 uf1
  have xn0 : ((w3.alloc (.cells #[.int .u64 0, .int .u64 bl] 54)).alloc (.cells #[.int .u64 yh, .int .u64 yl] 54)).cell? ⟨bn, 0, none⟩ = some (.int .u64 0) := kc _ _ (two _ _ _) un0
  have xn1 : ((w3.alloc (.cells #[.int .u64 0, .int .u64 bl] 54)).alloc (.cells #[.int .u64 yh, .int .u64 yl] 54)).cell? ⟨bn, 1, none⟩ = some (.int .u64 al) := kc _ _ (two _ _ _) un1
  have xd0 : ((w3.alloc (.cells #[.int .u64 0, .int .u64 bl] 54)).alloc (.cells #[.int .u64 yh, .int .u64 yl] 54)).cell? ⟨w3.heap.size, 0, none⟩ = some (.int .u64 0) := newC3 w3 _ _ _ 0
  have xd1 : ((w3.alloc (.cells #[.int .u64 0, .int .u64 bl] 54)).alloc (.cells #[.int .u64 yh, .int .u64 yl] 54)).cell? ⟨w3.heap.size, 1, none⟩ = some (.int .u64 bl) := newC3 w3 _ _ _ 1
  have hB5 : Below w.heap.size w ((w3.alloc (.cells #[.int .u64 0, .int .u64 bl] 54)).alloc (.cells #[.int .u64 yh, .int .u64 yl] 54)) := beyond hB4 (two _ _ _)
  clear u4 u5 uf0 uf1 un0 un1 hB4
  generalize ((w3.alloc (.cells #[.int .u64 0, .int .u64 bl] 54)).alloc (.cells #[.int .u64 yh, .int .u64 yl] 54)) = W3 at *
  generalize w3.heap.size = bd at *
  have y4 : ∀ O, (W3.alloc O).cell? ⟨w.heap.size + 1 + 1, 0, none⟩ = some (.int .i64 0) := fun O => kc _ _ (single _ _) x4
  have y5 : ∀ O, (W3.alloc O).cell? ⟨w.heap.size + 1 + 1, 1, none⟩ = some (.int .i64 0) := fun O => kc _ _ (single _ _) x5
  have yn0 : ∀ O, (W3.alloc O).cell? ⟨bn, 0, none⟩ = some (.int .u64 0) := fun O => kc _ _ (single _ _) xn0
  have yn1 : ∀ O, (W3.alloc O).cell? ⟨bn, 1, none⟩ = some (.int .u64 al) := fun O => kc _ _ (single _ _) xn1
  have yf0 : ∀ O, (W3.alloc O).frozen? ⟨w.heap.size + 1 + 1, 0, none⟩ = false := fun O => kf _ _ (single _ _) x4 xf0
  have yf1 : ∀ O, (W3.alloc O).frozen? ⟨w.heap.size + 1 + 1, 1, none⟩ = false := fun O => kf _ _ (single _ _) x5 xf1
  have l3 : w.heap.size + 1 + 1 < W3.heap.size := World.block_lt_of_cell? _ _ x4
  have l4 : bn < W3.heap.size := World.block_lt_of_cell? _ _ xn0
  have m1 : ¬ W3.heap.size = w.heap.size + 1 + 1 := by omega
  have m2 : ¬ w.heap.size + 1 + 1 = W3.heap.size := by omega
  have m3 : ¬ W3.heap.size = bn := by omega
  have m4 : ¬ bn = W3.heap.size := by omega
  have HB6 := hideR (show ∀ O, Below w.heap.size w (W3.alloc O) from fun O => beyond hB5 (single _ _))
  have HB5 := hideR hB5
  clear l1 l3 l4 hB5
  go_wp2_with fail
  refine bodyPost_ret (v := trip (nn, bl, 0)) (by simp [results, Tryd.results38, go_sem, *]) rfl ⟨rfl, ?_⟩
  first | exact set2 HB5.out (by omega) _ _ | exact set2 (HB6.out _) (by omega) _ _ | exact HB5.out | (refine set2 (Below.setCell (HB6.out _) ?_ _) (by omega) _ _; have := (HB6.out default).size; simp at this; omega) | trace_state
set_option maxRecDepth 100000 in
set_option maxHeartbeats 8000000 in
theorem xheld_l_false_f1 (ph pl qh ql gh gl ah al bh bl xh xl yh yl : Int) (w : World) (hq : ¬ ql = 0) (hc : ¬ ah = 0)
    (HC : Hid (∀ w, Calls Tryd.prog 42 #[.agg #[.int .u64 ph, .int .u64 pl], .agg #[.int .u64 qh, .int .u64 ql]] w fun e w' => e = .returned (.agg #[.int .u64 gh, .int .u64 gl]) ∧ Below w.heap.size w w'))
    (HD1 : Hid (∀ w, Calls Tryd.prog 65 #[.agg #[.int .u64 ph, .int .u64 pl], .agg #[.int .u64 gh, .int .u64 gl]] w fun e w' => e = .returned (.tuple #[.agg #[.int .u64 ah, .int .u64 al], .agg #[.int .u64 xh, .int .u64 xl]]) ∧ Below w.heap.size w w'))
    (HD2 : Hid (∀ w, Calls Tryd.prog 65 #[.agg #[.int .u64 qh, .int .u64 ql], .agg #[.int .u64 gh, .int .u64 gl]] w fun e w' => e = .returned (.tuple #[.agg #[.int .u64 bh, .int .u64 bl], .agg #[.int .u64 yh, .int .u64 yl]]) ∧ Below w.heap.size w w')) :
    Calls Tryd.prog 38 #[.bool false, .agg #[.int .u64 ph, .int .u64 pl], .agg #[.int .u64 qh, .int .u64 ql]] w fun e w' => e = .returned (trip (0, 0, 20)) ∧ Below w.heap.size w w' := by
  have n1 : ¬ w.heap.size = w.heap.size + 1 + 1 := by omega
  have n2 : ¬ w.heap.size + 1 + 1 = w.heap.size := by omega
  go_enter Tryd.func38, Tryd.ntmps38
  go_wp2_with fail
  refine (HC.out _).mono ?_
  rintro e w1 ⟨rfl, hb⟩
  have s0 := kc ⟨w.heap.size, 0, none⟩ (.int .u64 ph) hb (by first | assumption | simp [go_sem, *])
  have s1 := kc ⟨w.heap.size, 1, none⟩ (.int .u64 pl) hb (by first | assumption | simp [go_sem, *])
  have s2 := kc ⟨w.heap.size + 1, 0, none⟩ (.int .u64 qh) hb (by first | assumption | simp [go_sem, *])
  have s3 := kc ⟨w.heap.size + 1, 1, none⟩ (.int .u64 ql) hb (by first | assumption | simp [go_sem, *])
  have s4 := kc ⟨w.heap.size + 1 + 1, 0, none⟩ (.int .i64 0) hb (by first | assumption | simp [go_sem, *])
  have s5 := kc ⟨w.heap.size + 1 + 1, 1, none⟩ (.int .i64 0) hb (by first | assumption | simp [go_sem, *])
  have sf0 := kf ⟨w.heap.size + 1 + 1, 0, none⟩ (.int .i64 0) hb (by first | assumption | simp [go_sem, *]) (by first | assumption | simp [go_sem, *])
  have sf1 := kf ⟨w.heap.size + 1 + 1, 1, none⟩ (.int .i64 0) hb (by first | assumption | simp [go_sem, *]) (by first | assumption | simp [go_sem, *])
  have hB1 : Below w.heap.size w w1 := beyond (three w _ _ _) hb
  clear hb
  have l1 : w.heap.size + 1 + 1 < w1.heap.size := World.block_lt_of_cell? _ _ s4
  go_upto_region 4 with (fail)
  have t0 : (w1.alloc (.cells #[.int .u64 gh, .int .u64 gl] 54)).cell? ⟨w.heap.size, 0, none⟩ = some (.int .u64 ph) := kc _ _ (single _ _) s0
  have t1 : (w1.alloc (.cells #[.int .u64 gh, .int .u64 gl] 54)).cell? ⟨w.heap.size, 1, none⟩ = some (.int .u64 pl) := kc _ _ (single _ _) s1
  have t2 : (w1.alloc (.cells #[.int .u64 gh, .int .u64 gl] 54)).cell? ⟨w.heap.size + 1, 0, none⟩ = some (.int .u64 qh) := kc _ _ (single _ _) s2
  have t3 : (w1.alloc (.cells #[.int .u64 gh, .int .u64 gl] 54)).cell? ⟨w.heap.size + 1, 1, none⟩ = some (.int .u64 ql) := kc _ _ (single _ _) s3
  have t4 : (w1.alloc (.cells #[.int .u64 gh, .int .u64 gl] 54)).cell? ⟨w.heap.size + 1 + 1, 0, none⟩ = some (.int .i64 0) := kc _ _ (single _ _) s4
  have t5 : (w1.alloc (.cells #[.int .u64 gh, .int .u64 gl] 54)).cell? ⟨w.heap.size + 1 + 1, 1, none⟩ = some (.int .i64 0) := kc _ _ (single _ _) s5
  have tf0 : (w1.alloc (.cells #[.int .u64 gh, .int .u64 gl] 54)).frozen? ⟨w.heap.size + 1 + 1, 0, none⟩ = false := kf _ _ (single _ _) s4 sf0
  have tf1 : (w1.alloc (.cells #[.int .u64 gh, .int .u64 gl] 54)).frozen? ⟨w.heap.size + 1 + 1, 1, none⟩ = false := kf _ _ (single _ _) s5 sf1
  have tg0 : (w1.alloc (.cells #[.int .u64 gh, .int .u64 gl] 54)).cell? ⟨w1.heap.size, 0, none⟩ = some (.int .u64 gh) := new_cell w1 _ _ 0
  have tg1 : (w1.alloc (.cells #[.int .u64 gh, .int .u64 gl] 54)).cell? ⟨w1.heap.size, 1, none⟩ = some (.int .u64 gl) := new_cell w1 _ _ 1
  have hBG : Below w.heap.size w (w1.alloc (.cells #[.int .u64 gh, .int .u64 gl] 54)) := beyond hB1 (single _ _)
  clear s0 s1 s2 s3 s4 s5 sf0 sf1 hB1 HC
  generalize (w1.alloc (.cells #[.int .u64 gh, .int .u64 gl] 54)) = W1 at *
  generalize w1.heap.size = bg at *
  go_wp2_with fail
  refine (HD1.out _).mono ?_
  rintro e w2 ⟨rfl, hb⟩
  have u0 := kc _ _ hb t0
  have u1 := kc _ _ hb t1
  have u2 := kc _ _ hb t2
  have u3 := kc _ _ hb t3
  have u4 := kc _ _ hb t4
  have u5 := kc _ _ hb t5
  have uf0 := kf _ _ hb t4 tf0
  have uf1 := kf _ _ hb t5 tf1
  have ug0 := kc _ _ hb tg0
  have ug1 := kc _ _ hb tg1
  have hB2 : Below w.heap.size w w2 := beyond hBG hb
  clear hb t0 t1 t2 t3 t4 t5 tf0 tf1 tg0 tg1 hBG HD1
  go_upto_region 5 with (fail)
  have v0 : ((w2.alloc (.cells #[.int .u64 ah, .int .u64 al] 54)).alloc (.cells #[.int .u64 xh, .int .u64 xl] 54)).cell? ⟨w.heap.size, 0, none⟩ = some (.int .u64 ph) := kc _ _ (two _ _ _) u0
  have v1 : ((w2.alloc (.cells #[.int .u64 ah, .int .u64 al] 54)).alloc (.cells #[.int .u64 xh, .int .u64 xl] 54)).cell? ⟨w.heap.size, 1, none⟩ = some (.int .u64 pl) := kc _ _ (two _ _ _) u1
  have v2 : ((w2.alloc (.cells #[.int .u64 ah, .int .u64 al] 54)).alloc (.cells #[.int .u64 xh, .int .u64 xl] 54)).cell? ⟨w.heap.size + 1, 0, none⟩ = some (.int .u64 qh) := kc _ _ (two _ _ _) u2
  have v3 : ((w2.alloc (.cells #[.int .u64 ah, .int .u64 al] 54)).alloc (.cells #[.int .u64 xh, .int .u64 xl] 54)).cell? ⟨w.heap.size + 1, 1, none⟩ = some (.int .u64 ql) := kc _ _ (two _ _ _) u3
  have v4 : ((w2.alloc (.cells #[.int .u64 ah, .int .u64 al] 54)).alloc (.cells #[.int .u64 xh, .int .u64 xl] 54)).cell? ⟨w.heap.size + 1 + 1, 0, none⟩ = some (.int .i64 0) := kc _ _ (two _ _ _) u4
  have v5 : ((w2.alloc (.cells #[.int .u64 ah, .int .u64 al] 54)).alloc (.cells #[.int .u64 xh, .int .u64 xl] 54)).cell? ⟨w.heap.size + 1 + 1, 1, none⟩ = some (.int .i64 0) := kc _ _ (two _ _ _) u5
  have vf0 : ((w2.alloc (.cells #[.int .u64 ah, .int .u64 al] 54)).alloc (.cells #[.int .u64 xh, .int .u64 xl] 54)).frozen? ⟨w.heap.size + 1 + 1, 0, none⟩ = false := kf _ _ (two _ _ _) u4 uf0
  have vf1 : ((w2.alloc (.cells #[.int .u64 ah, .int .u64 al] 54)).alloc (.cells #[.int .u64 xh, .int .u64 xl] 54)).frozen? ⟨w.heap.size + 1 + 1, 1, none⟩ = false := kf _ _ (two _ _ _) u5 uf1
  have vg0 : ((w2.alloc (.cells #[.int .u64 ah, .int .u64 al] 54)).alloc (.cells #[.int .u64 xh, .int .u64 xl] 54)).cell? ⟨bg, 0, none⟩ = some (.int .u64 gh) := kc _ _ (two _ _ _) ug0
  have vg1 : ((w2.alloc (.cells #[.int .u64 ah, .int .u64 al] 54)).alloc (.cells #[.int .u64 xh, .int .u64 xl] 54)).cell? ⟨bg, 1, none⟩ = some (.int .u64 gl) := kc _ _ (two _ _ _) ug1
  have vn0 : ((w2.alloc (.cells #[.int .u64 ah, .int .u64 al] 54)).alloc (.cells #[.int .u64 xh, .int .u64 xl] 54)).cell? ⟨w2.heap.size, 0, none⟩ = some (.int .u64 ah) := newC3 w2 _ _ _ 0
  have vn1 : ((w2.alloc (.cells #[.int .u64 ah, .int .u64 al] 54)).alloc (.cells #[.int .u64 xh, .int .u64 xl] 54)).cell? ⟨w2.heap.size, 1, none⟩ = some (.int .u64 al) := newC3 w2 _ _ _ 1
  have hB3 : Below w.heap.size w ((w2.alloc (.cells #[.int .u64 ah, .int .u64 al] 54)).alloc (.cells #[.int .u64 xh, .int .u64 xl] 54)) := beyond hB2 (two _ _ _)
  clear u0 u1 u2 u3 u4 u5 uf0 uf1 ug0 ug1 hB2
  generalize ((w2.alloc (.cells #[.int .u64 ah, .int .u64 al] 54)).alloc (.cells #[.int .u64 xh, .int .u64 xl] 54)) = W2 at *
  generalize w2.heap.size = bn at *
  go_wp2_with fail
  refine (HD2.out _).mono ?_
  rintro e w3 ⟨rfl, hb⟩
  have u4 := kc _ _ hb v4
  have u5 := kc _ _ hb v5
  have uf0 := kf _ _ hb v4 vf0
  have uf1 := kf _ _ hb v5 vf1
  have un0 := kc _ _ hb vn0
  have un1 := kc _ _ hb vn1
  have hB4 : Below w.heap.size w w3 := beyond hB3 hb
  clear hb v0 v1 v2 v3 v4 v5 vf0 vf1 vg0 vg1 vn0 vn1 hB3 HD2 hq
  go_upto_region 6 with (fail)
  have x4 : ((w3.alloc (.cells #[.int .u64 bh, .int .u64 bl] 54)).alloc (.cells #[.int .u64 yh, .int .u64 yl] 54)).cell? ⟨w.heap.size + 1 + 1, 0, none⟩ = some (.int .i64 0) := kc _ _ (two _ _ _) u4
  have x5 : ((w3.alloc (.cells #[.int .u64 bh, .int .u64 bl] 54)).alloc (.cells #[.int .u64 yh, .int .u64 yl] 54)).cell? ⟨w.heap.size + 1 + 1, 1, none⟩ = some (.int .i64 0) := kc _ _ (two _ _ _) u5
  have xf0 : ((w3.alloc (.cells #[.int .u64 bh, .int .u64 bl] 54)).alloc (.cells #[.int .u64 yh, .int .u64 yl] 54)).frozen? ⟨w.heap.size + 1 + 1, 0, none⟩ = false := kf _ _ (two _ _ _) u4 uf0
  have xf1 : ((w3.alloc (.cells #[.int .u64 bh, .int .u64 bl] 54)).alloc (.cells #[.int .u64 yh, .int .u64 yl] 54)).frozen? ⟨w.heap.size + 1 + 1, 1, none⟩ = false := kf _ _ (two _ _ _) u5 uf1
  have xn0 : ((w3.alloc (.cells #[.int .u64 bh, .int .u64 bl] 54)).alloc (.cells #[.int .u64 yh, .int .u64 yl] 54)).cell? ⟨bn, 0, none⟩ = some (.int .u64 ah) := kc _ _ (two _ _ _) un0
  have xn1 : ((w3.alloc (.cells #[.int .u64 bh, .int .u64 bl] 54)).alloc (.cells #[.int .u64 yh, .int .u64 yl] 54)).cell? ⟨bn, 1, none⟩ = some (.int .u64 al) := kc _ _ (two _ _ _) un1
  have xd0 : ((w3.alloc (.cells #[.int .u64 bh, .int .u64 bl] 54)).alloc (.cells #[.int .u64 yh, .int .u64 yl] 54)).cell? ⟨w3.heap.size, 0, none⟩ = some (.int .u64 bh) := newC3 w3 _ _ _ 0
  have xd1 : ((w3.alloc (.cells #[.int .u64 bh, .int .u64 bl] 54)).alloc (.cells #[.int .u64 yh, .int .u64 yl] 54)).cell? ⟨w3.heap.size, 1, none⟩ = some (.int .u64 bl) := newC3 w3 _ _ _ 1
  have hB5 : Below w.heap.size w ((w3.alloc (.cells #[.int .u64 bh, .int .u64 bl] 54)).alloc (.cells #[.int .u64 yh, .int .u64 yl] 54)) := beyond hB4 (two _ _ _)
  clear u4 u5 uf0 uf1 un0 un1 hB4
  generalize ((w3.alloc (.cells #[.int .u64 bh, .int .u64 bl] 54)).alloc (.cells #[.int .u64 yh, .int .u64 yl] 54)) = W3 at *
  generalize w3.heap.size = bd at *
  have y4 : ∀ O, (W3.alloc O).cell? ⟨w.heap.size + 1 + 1, 0, none⟩ = some (.int .i64 0) := fun O => kc _ _ (single _ _) x4
  have y5 : ∀ O, (W3.alloc O).cell? ⟨w.heap.size + 1 + 1, 1, none⟩ = some (.int .i64 0) := fun O => kc _ _ (single _ _) x5
  have yn0 : ∀ O, (W3.alloc O).cell? ⟨bn, 0, none⟩ = some (.int .u64 ah) := fun O => kc _ _ (single _ _) xn0
  have yn1 : ∀ O, (W3.alloc O).cell? ⟨bn, 1, none⟩ = some (.int .u64 al) := fun O => kc _ _ (single _ _) xn1
  have yf0 : ∀ O, (W3.alloc O).frozen? ⟨w.heap.size + 1 + 1, 0, none⟩ = false := fun O => kf _ _ (single _ _) x4 xf0
  have yf1 : ∀ O, (W3.alloc O).frozen? ⟨w.heap.size + 1 + 1, 1, none⟩ = false := fun O => kf _ _ (single _ _) x5 xf1
  have l3 : w.heap.size + 1 + 1 < W3.heap.size := World.block_lt_of_cell? _ _ x4
  have l4 : bn < W3.heap.size := World.block_lt_of_cell? _ _ xn0
  have m1 : ¬ W3.heap.size = w.heap.size + 1 + 1 := by omega
  have m2 : ¬ w.heap.size + 1 + 1 = W3.heap.size := by omega
  have m3 : ¬ W3.heap.size = bn := by omega
  have m4 : ¬ bn = W3.heap.size := by omega
  have HB6 := hideR (show ∀ O, Below w.heap.size w (W3.alloc O) from fun O => beyond hB5 (single _ _))
  have HB5 := hideR hB5
  clear l1 l3 l4 hB5
  go_wp2_with fail
  refine bodyPost_ret (v := trip (0, 0, 20)) (by simp [results, Tryd.results38, go_sem, *]) rfl ⟨rfl, ?_⟩
  first | exact set2 HB5.out (by omega) _ _ | exact set2 (HB6.out _) (by omega) _ _ | exact HB5.out | (refine set2 (Below.setCell (HB6.out _) ?_ _) (by omega) _ _; have := (HB6.out default).size; simp at this; omega) | trace_state
set_option maxRecDepth 100000 in
set_option maxHeartbeats 8000000 in
theorem xheld_l_false_f2 (ph pl qh ql gh gl al bh bl xh xl yh yl : Int) (w : World) (hq : ¬ ql = 0) (hc : 9223372036854775807 < al)
    (HC : Hid (∀ w, Calls Tryd.prog 42 #[.agg #[.int .u64 ph, .int .u64 pl], .agg #[.int .u64 qh, .int .u64 ql]] w fun e w' => e = .returned (.agg #[.int .u64 gh, .int .u64 gl]) ∧ Below w.heap.size w w'))
    (HD1 : Hid (∀ w, Calls Tryd.prog 65 #[.agg #[.int .u64 ph, .int .u64 pl], .agg #[.int .u64 gh, .int .u64 gl]] w fun e w' => e = .returned (.tuple #[.agg #[.int .u64 0, .int .u64 al], .agg #[.int .u64 xh, .int .u64 xl]]) ∧ Below w.heap.size w w'))
    (HD2 : Hid (∀ w, Calls Tryd.prog 65 #[.agg #[.int .u64 qh, .int .u64 ql], .agg #[.int .u64 gh, .int .u64 gl]] w fun e w' => e = .returned (.tuple #[.agg #[.int .u64 bh, .int .u64 bl], .agg #[.int .u64 yh, .int .u64 yl]]) ∧ Below w.heap.size w w')) :
    Calls Tryd.prog 38 #[.bool false, .agg #[.int .u64 ph, .int .u64 pl], .agg #[.int .u64 qh, .int .u64 ql]] w fun e w' => e = .returned (trip (0, 0, 20)) ∧ Below w.heap.size w w' := by
  have n1 : ¬ w.heap.size = w.heap.size + 1 + 1 := by omega
  have n2 : ¬ w.heap.size + 1 + 1 = w.heap.size := by omega
  go_enter Tryd.func38, Tryd.ntmps38
  go_wp2_with fail
  refine (HC.out _).mono ?_
  rintro e w1 ⟨rfl, hb⟩
  have s0 := kc ⟨w.heap.size, 0, none⟩ (.int .u64 ph) hb (by first | assumption | simp [go_sem, *])
  have s1 := kc ⟨w.heap.size, 1, none⟩ (.int .u64 pl) hb (by first | assumption | simp [go_sem, *])
  have s2 := kc ⟨w.heap.size + 1, 0, none⟩ (.int .u64 qh) hb (by first | assumption | simp [go_sem, *])
  have s3 := kc ⟨w.heap.size + 1, 1, none⟩ (.int .u64 ql) hb (by first | assumption | simp [go_sem, *])
  have s4 := kc ⟨w.heap.size + 1 + 1, 0, none⟩ (.int .i64 0) hb (by first | assumption | simp [go_sem, *])
  have s5 := kc ⟨w.heap.size + 1 + 1, 1, none⟩ (.int .i64 0) hb (by first | assumption | simp [go_sem, *])
  have sf0 := kf ⟨w.heap.size + 1 + 1, 0, none⟩ (.int .i64 0) hb (by first | assumption | simp [go_sem, *]) (by first | assumption | simp [go_sem, *])
  have sf1 := kf ⟨w.heap.size + 1 + 1, 1, none⟩ (.int .i64 0) hb (by first | assumption | simp [go_sem, *]) (by first | assumption | simp [go_sem, *])
  have hB1 : Below w.heap.size w w1 := beyond (three w _ _ _) hb
  clear hb
  have l1 : w.heap.size + 1 + 1 < w1.heap.size := World.block_lt_of_cell? _ _ s4
  go_upto_region 4 with (fail)
  have t0 : (w1.alloc (.cells #[.int .u64 gh, .int .u64 gl] 54)).cell? ⟨w.heap.size, 0, none⟩ = some (.int .u64 ph) := kc _ _ (single _ _) s0
  have t1 : (w1.alloc (.cells #[.int .u64 gh, .int .u64 gl] 54)).cell? ⟨w.heap.size, 1, none⟩ = some (.int .u64 pl) := kc _ _ (single _ _) s1
  have t2 : (w1.alloc (.cells #[.int .u64 gh, .int .u64 gl] 54)).cell? ⟨w.heap.size + 1, 0, none⟩ = some (.int .u64 qh) := kc _ _ (single _ _) s2
  have t3 : (w1.alloc (.cells #[.int .u64 gh, .int .u64 gl] 54)).cell? ⟨w.heap.size + 1, 1, none⟩ = some (.int .u64 ql) := kc _ _ (single _ _) s3
  have t4 : (w1.alloc (.cells #[.int .u64 gh, .int .u64 gl] 54)).cell? ⟨w.heap.size + 1 + 1, 0, none⟩ = some (.int .i64 0) := kc _ _ (single _ _) s4
  have t5 : (w1.alloc (.cells #[.int .u64 gh, .int .u64 gl] 54)).cell? ⟨w.heap.size + 1 + 1, 1, none⟩ = some (.int .i64 0) := kc _ _ (single _ _) s5
  have tf0 : (w1.alloc (.cells #[.int .u64 gh, .int .u64 gl] 54)).frozen? ⟨w.heap.size + 1 + 1, 0, none⟩ = false := kf _ _ (single _ _) s4 sf0
  have tf1 : (w1.alloc (.cells #[.int .u64 gh, .int .u64 gl] 54)).frozen? ⟨w.heap.size + 1 + 1, 1, none⟩ = false := kf _ _ (single _ _) s5 sf1
  have tg0 : (w1.alloc (.cells #[.int .u64 gh, .int .u64 gl] 54)).cell? ⟨w1.heap.size, 0, none⟩ = some (.int .u64 gh) := new_cell w1 _ _ 0
  have tg1 : (w1.alloc (.cells #[.int .u64 gh, .int .u64 gl] 54)).cell? ⟨w1.heap.size, 1, none⟩ = some (.int .u64 gl) := new_cell w1 _ _ 1
  have hBG : Below w.heap.size w (w1.alloc (.cells #[.int .u64 gh, .int .u64 gl] 54)) := beyond hB1 (single _ _)
  clear s0 s1 s2 s3 s4 s5 sf0 sf1 hB1 HC
  generalize (w1.alloc (.cells #[.int .u64 gh, .int .u64 gl] 54)) = W1 at *
  generalize w1.heap.size = bg at *
  go_wp2_with fail
  refine (HD1.out _).mono ?_
  rintro e w2 ⟨rfl, hb⟩
  have u0 := kc _ _ hb t0
  have u1 := kc _ _ hb t1
  have u2 := kc _ _ hb t2
  have u3 := kc _ _ hb t3
  have u4 := kc _ _ hb t4
  have u5 := kc _ _ hb t5
  have uf0 := kf _ _ hb t4 tf0
  have uf1 := kf _ _ hb t5 tf1
  have ug0 := kc _ _ hb tg0
  have ug1 := kc _ _ hb tg1
  have hB2 : Below w.heap.size w w2 := beyond hBG hb
  clear hb t0 t1 t2 t3 t4 t5 tf0 tf1 tg0 tg1 hBG HD1
  go_upto_region 5 with (fail)
  have v0 : ((w2.alloc (.cells #[.int .u64 0, .int .u64 al] 54)).alloc (.cells #[.int .u64 xh, .int .u64 xl] 54)).cell? ⟨w.heap.size, 0, none⟩ = some (.int .u64 ph) := kc _ _ (two _ _ _) u0
  have v1 : ((w2.alloc (.cells #[.int .u64 0, .int .u64 al] 54)).alloc (.cells #[.int .u64 xh, .int .u64 xl] 54)).cell? ⟨w.heap.size, 1, none⟩ = some (.int .u64 pl) := kc _ _ (two _ _ _) u1
  have v2 : ((w2.alloc (.cells #[.int .u64 0, .int .u64 al] 54)).alloc (.cells #[.int .u64 xh, .int .u64 xl] 54)).cell? ⟨w.heap.size + 1, 0, none⟩ = some (.int .u64 qh) := kc _ _ (two _ _ _) u2
  have v3 : ((w2.alloc (.cells #[.int .u64 0, .int .u64 al] 54)).alloc (.cells #[.int .u64 xh, .int .u64 xl] 54)).cell? ⟨w.heap.size + 1, 1, none⟩ = some (.int .u64 ql) := kc _ _ (two _ _ _) u3
  have v4 : ((w2.alloc (.cells #[.int .u64 0, .int .u64 al] 54)).alloc (.cells #[.int .u64 xh, .int .u64 xl] 54)).cell? ⟨w.heap.size + 1 + 1, 0, none⟩ = some (.int .i64 0) := kc _ _ (two _ _ _) u4
  have v5 : ((w2.alloc (.cells #[.int .u64 0, .int .u64 al] 54)).alloc (.cells #[.int .u64 xh, .int .u64 xl] 54)).cell? ⟨w.heap.size + 1 + 1, 1, none⟩ = some (.int .i64 0) := kc _ _ (two _ _ _) u5
  have vf0 : ((w2.alloc (.cells #[.int .u64 0, .int .u64 al] 54)).alloc (.cells #[.int .u64 xh, .int .u64 xl] 54)).frozen? ⟨w.heap.size + 1 + 1, 0, none⟩ = false := kf _ _ (two _ _ _) u4 uf0
  have vf1 : ((w2.alloc (.cells #[.int .u64 0, .int .u64 al] 54)).alloc (.cells #[.int .u64 xh, .int .u64 xl] 54)).frozen? ⟨w.heap.size + 1 + 1, 1, none⟩ = false := kf _ _ (two _ _ _) u5 uf1
  have vg0 : ((w2.alloc (.cells #[.int .u64 0, .int .u64 al] 54)).alloc (.cells #[.int .u64 xh, .int .u64 xl] 54)).cell? ⟨bg, 0, none⟩ = some (.int .u64 gh) := kc _ _ (two _ _ _) ug0
  have vg1 : ((w2.alloc (.cells #[.int .u64 0, .int .u64 al] 54)).alloc (.cells #[.int .u64 xh, .int .u64 xl] 54)).cell? ⟨bg, 1, none⟩ = some (.int .u64 gl) := kc _ _ (two _ _ _) ug1
  have vn0 : ((w2.alloc (.cells #[.int .u64 0, .int .u64 al] 54)).alloc (.cells #[.int .u64 xh, .int .u64 xl] 54)).cell? ⟨w2.heap.size, 0, none⟩ = some (.int .u64 0) := newC3 w2 _ _ _ 0
  have vn1 : ((w2.alloc (.cells #[.int .u64 0, .int .u64 al] 54)).alloc (.cells #[.int .u64 xh, .int .u64 xl] 54)).cell? ⟨w2.heap.size, 1, none⟩ = some (.int .u64 al) := newC3 w2 _ _ _ 1
  have hB3 : Below w.heap.size w ((w2.alloc (.cells #[.int .u64 0, .int .u64 al] 54)).alloc (.cells #[.int .u64 xh, .int .u64 xl] 54)) := beyond hB2 (two _ _ _)
  clear u0 u1 u2 u3 u4 u5 uf0 uf1 ug0 ug1 hB2
  generalize ((w2.alloc (.cells #[.int .u64 0, .int .u64 al] 54)).alloc (.cells #[.int .u64 xh, .int .u64 xl] 54)) = W2 at *
  generalize w2.heap.size = bn at *
  go_wp2_with fail
  refine (HD2.out _).mono ?_
  rintro e w3 ⟨rfl, hb⟩
  have u4 := kc _ _ hb v4
  have u5 := kc _ _ hb v5
  have uf0 := kf _ _ hb v4 vf0
  have uf1 := kf _ _ hb v5 vf1
  have un0 := kc _ _ hb vn0
  have un1 := kc _ _ hb vn1
  have hB4 : Below w.heap.size w w3 := beyond hB3 hb
  clear hb v0 v1 v2 v3 v4 v5 vf0 vf1 vg0 vg1 vn0 vn1 hB3 HD2 hq
  go_upto_region 6 with (fail)
  have x4 : ((w3.alloc (.cells #[.int .u64 bh, .int .u64 bl] 54)).alloc (.cells #[.int .u64 yh, .int .u64 yl] 54)).cell? ⟨w.heap.size + 1 + 1, 0, none⟩ = some (.int .i64 0) := kc _ _ (two _ _ _) u4
  have x5 : ((w3.alloc (.cells #[.int .u64 bh, .int .u64 bl] 54)).alloc (.cells #[.int .u64 yh, .int .u64 yl] 54)).cell? ⟨w.heap.size + 1 + 1, 1, none⟩ = some (.int .i64 0) := kc _ _ (two _ _ _) u5
  have xf0 : ((w3.alloc (.cells #[.int .u64 bh, .int .u64 bl] 54)).alloc (.cells #[.int .u64 yh, .int .u64 yl] 54)).frozen? ⟨w.heap.size + 1 + 1, 0, none⟩ = false := kf _ _ (two _ _ _) u4 uf0
  have xf1 : ((w3.alloc (.cells #[.int .u64 bh, .int .u64 bl] 54)).alloc (.cells #[.int .u64 yh, .int .u64 yl] 54)).frozen? ⟨w.heap.size + 1 + 1, 1, none⟩ = false := kf _ _ (two _ _ _) u5 uf1
  have xn0 : ((w3.alloc (.cells #[.int .u64 bh, .int .u64 bl] 54)).alloc (.cells #[.int .u64 yh, .int .u64 yl] 54)).cell? ⟨bn, 0, none⟩ = some (.int .u64 0) := kc _ _ (two _ _ _) un0
  have xn1 : ((w3.alloc (.cells #[.int .u64 bh, .int .u64 bl] 54)).alloc (.cells #[.int .u64 yh, .int .u64 yl] 54)).cell? ⟨bn, 1, none⟩ = some (.int .u64 al) := kc _ _ (two _ _ _) un1
  have xd0 : ((w3.alloc (.cells #[.int .u64 bh, .int .u64 bl] 54)).alloc (.cells #[.int .u64 yh, .int .u64 yl] 54)).cell? ⟨w3.heap.size, 0, none⟩ = some (.int .u64 bh) := newC3 w3 _ _ _ 0
  have xd1 : ((w3.alloc (.cells #[.int .u64 bh, .int .u64 bl] 54)).alloc (.cells #[.int .u64 yh, .int .u64 yl] 54)).cell? ⟨w3.heap.size, 1, none⟩ = some (.int .u64 bl) := newC3 w3 _ _ _ 1
  have hB5 : Below w.heap.size w ((w3.alloc (.cells #[.int .u64 bh, .int .u64 bl] 54)).alloc (.cells #[.int .u64 yh, .int .u64 yl] 54)) := beyond hB4 (two _ _ _)
  clear u4 u5 uf0 uf1 un0 un1 hB4
  generalize ((w3.alloc (.cells #[.int .u64 bh, .int .u64 bl] 54)).alloc (.cells #[.int .u64 yh, .int .u64 yl] 54)) = W3 at *
  generalize w3.heap.size = bd at *
  have y4 : ∀ O, (W3.alloc O).cell? ⟨w.heap.size + 1 + 1, 0, none⟩ = some (.int .i64 0) := fun O => kc _ _ (single _ _) x4
  have y5 : ∀ O, (W3.alloc O).cell? ⟨w.heap.size + 1 + 1, 1, none⟩ = some (.int .i64 0) := fun O => kc _ _ (single _ _) x5
  have yn0 : ∀ O, (W3.alloc O).cell? ⟨bn, 0, none⟩ = some (.int .u64 0) := fun O => kc _ _ (single _ _) xn0
  have yn1 : ∀ O, (W3.alloc O).cell? ⟨bn, 1, none⟩ = some (.int .u64 al) := fun O => kc _ _ (single _ _) xn1
  have yf0 : ∀ O, (W3.alloc O).frozen? ⟨w.heap.size + 1 + 1, 0, none⟩ = false := fun O => kf _ _ (single _ _) x4 xf0
  have yf1 : ∀ O, (W3.alloc O).frozen? ⟨w.heap.size + 1 + 1, 1, none⟩ = false := fun O => kf _ _ (single _ _) x5 xf1
  have l3 : w.heap.size + 1 + 1 < W3.heap.size := World.block_lt_of_cell? _ _ x4
  have l4 : bn < W3.heap.size := World.block_lt_of_cell? _ _ xn0
  have m1 : ¬ W3.heap.size = w.heap.size + 1 + 1 := by omega
  have m2 : ¬ w.heap.size + 1 + 1 = W3.heap.size := by omega
  have m3 : ¬ W3.heap.size = bn := by omega
  have m4 : ¬ bn = W3.heap.size := by omega
  have HB6 := hideR (show ∀ O, Below w.heap.size w (W3.alloc O) from fun O => beyond hB5 (single _ _))
  have HB5 := hideR hB5
  clear l1 l3 l4 hB5
  go_wp2_with fail
  refine bodyPost_ret (v := trip (0, 0, 20)) (by simp [results, Tryd.results38, go_sem, *]) rfl ⟨rfl, ?_⟩
  first | exact set2 HB5.out (by omega) _ _ | exact set2 (HB6.out _) (by omega) _ _ | exact HB5.out | (refine set2 (Below.setCell (HB6.out _) ?_ _) (by omega) _ _; have := (HB6.out default).size; simp at this; omega) | trace_state
set_option maxRecDepth 100000 in
set_option maxHeartbeats 8000000 in
theorem xheld_l_false_f3 (ph pl qh ql gh gl al bh bl xh xl yh yl : Int) (w : World) (hq : ¬ ql = 0) (e2 : ¬ 9223372036854775807 < al) (hc : ¬ bh = 0)
    (HC : Hid (∀ w, Calls Tryd.prog 42 #[.agg #[.int .u64 ph, .int .u64 pl], .agg #[.int .u64 qh, .int .u64 ql]] w fun e w' => e = .returned (.agg #[.int .u64 gh, .int .u64 gl]) ∧ Below w.heap.size w w'))
    (HD1 : Hid (∀ w, Calls Tryd.prog 65 #[.agg #[.int .u64 ph, .int .u64 pl], .agg #[.int .u64 gh, .int .u64 gl]] w fun e w' => e = .returned (.tuple #[.agg #[.int .u64 0, .int .u64 al], .agg #[.int .u64 xh, .int .u64 xl]]) ∧ Below w.heap.size w w'))
    (HD2 : Hid (∀ w, Calls Tryd.prog 65 #[.agg #[.int .u64 qh, .int .u64 ql], .agg #[.int .u64 gh, .int .u64 gl]] w fun e w' => e = .returned (.tuple #[.agg #[.int .u64 bh, .int .u64 bl], .agg #[.int .u64 yh, .int .u64 yl]]) ∧ Below w.heap.size w w')) :
    Calls Tryd.prog 38 #[.bool false, .agg #[.int .u64 ph, .int .u64 pl], .agg #[.int .u64 qh, .int .u64 ql]] w fun e w' => e = .returned (trip (0, 0, 20)) ∧ Below w.heap.size w w' := by
  have n1 : ¬ w.heap.size = w.heap.size + 1 + 1 := by omega
  have n2 : ¬ w.heap.size + 1 + 1 = w.heap.size := by omega
  go_enter Tryd.func38, Tryd.ntmps38
  go_wp2_with fail
  refine (HC.out _).mono ?_
  rintro e w1 ⟨rfl, hb⟩
  have s0 := kc ⟨w.heap.size, 0, none⟩ (.int .u64 ph) hb (by first | assumption | simp [go_sem, *])
  have s1 := kc ⟨w.heap.size, 1, none⟩ (.int .u64 pl) hb (by first | assumption | simp [go_sem, *])
  have s2 := kc ⟨w.heap.size + 1, 0, none⟩ (.int .u64 qh) hb (by first | assumption | simp [go_sem, *])
  have s3 := kc ⟨w.heap.size + 1, 1, none⟩ (.int .u64 ql) hb (by first | assumption | simp [go_sem, *])
  have s4 := kc ⟨w.heap.size + 1 + 1, 0, none⟩ (.int .i64 0) hb (by first | assumption | simp [go_sem, *])
  have s5 := kc ⟨w.heap.size + 1 + 1, 1, none⟩ (.int .i64 0) hb (by first | assumption | simp [go_sem, *])
  have sf0 := kf ⟨w.heap.size + 1 + 1, 0, none⟩ (.int .i64 0) hb (by first | assumption | simp [go_sem, *]) (by first | assumption | simp [go_sem, *])
  have sf1 := kf ⟨w.heap.size + 1 + 1, 1, none⟩ (.int .i64 0) hb (by first | assumption | simp [go_sem, *]) (by first | assumption | simp [go_sem, *])
  have hB1 : Below w.heap.size w w1 := beyond (three w _ _ _) hb
  clear hb
  have l1 : w.heap.size + 1 + 1 < w1.heap.size := World.block_lt_of_cell? _ _ s4
  go_upto_region 4 with (fail)
  have t0 : (w1.alloc (.cells #[.int .u64 gh, .int .u64 gl] 54)).cell? ⟨w.heap.size, 0, none⟩ = some (.int .u64 ph) := kc _ _ (single _ _) s0
  have t1 : (w1.alloc (.cells #[.int .u64 gh, .int .u64 gl] 54)).cell? ⟨w.heap.size, 1, none⟩ = some (.int .u64 pl) := kc _ _ (single _ _) s1
  have t2 : (w1.alloc (.cells #[.int .u64 gh, .int .u64 gl] 54)).cell? ⟨w.heap.size + 1, 0, none⟩ = some (.int .u64 qh) := kc _ _ (single _ _) s2
  have t3 : (w1.alloc (.cells #[.int .u64 gh, .int .u64 gl] 54)).cell? ⟨w.heap.size + 1, 1, none⟩ = some (.int .u64 ql) := kc _ _ (single _ _) s3
  have t4 : (w1.alloc (.cells #[.int .u64 gh, .int .u64 gl] 54)).cell? ⟨w.heap.size + 1 + 1, 0, none⟩ = some (.int .i64 0) := kc _ _ (single _ _) s4
  have t5 : (w1.alloc (.cells #[.int .u64 gh, .int .u64 gl] 54)).cell? ⟨w.heap.size + 1 + 1, 1, none⟩ = some (.int .i64 0) := kc _ _ (single _ _) s5
  have tf0 : (w1.alloc (.cells #[.int .u64 gh, .int .u64 gl] 54)).frozen? ⟨w.heap.size + 1 + 1, 0, none⟩ = false := kf _ _ (single _ _) s4 sf0
  have tf1 : (w1.alloc (.cells #[.int .u64 gh, .int .u64 gl] 54)).frozen? ⟨w.heap.size + 1 + 1, 1, none⟩ = false := kf _ _ (single _ _) s5 sf1
  have tg0 : (w1.alloc (.cells #[.int .u64 gh, .int .u64 gl] 54)).cell? ⟨w1.heap.size, 0, none⟩ = some (.int .u64 gh) := new_cell w1 _ _ 0
  have tg1 : (w1.alloc (.cells #[.int .u64 gh, .int .u64 gl] 54)).cell? ⟨w1.heap.size, 1, none⟩ = some (.int .u64 gl) := new_cell w1 _ _ 1
  have hBG : Below w.heap.size w (w1.alloc (.cells #[.int .u64 gh, .int .u64 gl] 54)) := beyond hB1 (single _ _)
  clear s0 s1 s2 s3 s4 s5 sf0 sf1 hB1 HC
  generalize (w1.alloc (.cells #[.int .u64 gh, .int .u64 gl] 54)) = W1 at *
  generalize w1.heap.size = bg at *
  go_wp2_with fail
  refine (HD1.out _).mono ?_
  rintro e w2 ⟨rfl, hb⟩
  have u0 := kc _ _ hb t0
  have u1 := kc _ _ hb t1
  have u2 := kc _ _ hb t2
  have u3 := kc _ _ hb t3
  have u4 := kc _ _ hb t4
  have u5 := kc _ _ hb t5
  have uf0 := kf _ _ hb t4 tf0
  have uf1 := kf _ _ hb t5 tf1
  have ug0 := kc _ _ hb tg0
  have ug1 := kc _ _ hb tg1
  have hB2 : Below w.heap.size w w2 := beyond hBG hb
  clear hb t0 t1 t2 t3 t4 t5 tf0 tf1 tg0 tg1 hBG HD1
  go_upto_region 5 with (fail)
  have v0 : ((w2.alloc (.cells #[.int .u64 0, .int .u64 al] 54)).alloc (.cells #[.int .u64 xh, .int .u64 xl] 54)).cell? ⟨w.heap.size, 0, none⟩ = some (.int .u64 ph) := kc _ _ (two _ _ _) u0
  have v1 : ((w2.alloc (.cells #[.int .u64 0, .int .u64 al] 54)).alloc (.cells #[.int .u64 xh, .int .u64 xl] 54)).cell? ⟨w.heap.size, 1, none⟩ = some (.int .u64 pl) := kc _ _ (two _ _ _) u1
  have v2 : ((w2.alloc (.cells #[.int .u64 0, .int .u64 al] 54)).alloc (.cells #[.int .u64 xh, .int .u64 xl] 54)).cell? ⟨w.heap.size + 1, 0, none⟩ = some (.int .u64 qh) := kc _ _ (two _ _ _) u2
  have v3 : ((w2.alloc (.cells #[.int .u64 0, .int .u64 al] 54)).alloc (.cells #[.int .u64 xh, .int .u64 xl] 54)).cell? ⟨w.heap.size + 1, 1, none⟩ = some (.int .u64 ql) := kc _ _ (two _ _ _) u3
  have v4 : ((w2.alloc (.cells #[.int .u64 0, .int .u64 al] 54)).alloc (.cells #[.int .u64 xh, .int .u64 xl] 54)).cell? ⟨w.heap.size + 1 + 1, 0, none⟩ = some (.int .i64 0) := kc _ _ (two _ _ _) u4
  have v5 : ((w2.alloc (.cells #[.int .u64 0, .int .u64 al] 54)).alloc (.cells #[.int .u64 xh, .int .u64 xl] 54)).cell? ⟨w.heap.size + 1 + 1, 1, none⟩ = some (.int .i64 0) := kc _ _ (two _ _ _) u5
  have vf0 : ((w2.alloc (.cells #[.int .u64 0, .int .u64 al] 54)).alloc (.cells #[.int .u64 xh, .int .u64 xl] 54)).frozen? ⟨w.heap.size + 1 + 1, 0, none⟩ = false := kf _ _ (two _ _ _) u4 uf0
  have vf1 : ((w2.alloc (.cells #[.int .u64 0, .int .u64 al] 54)).alloc (.cells #[.int .u64 xh, .int .u64 xl] 54)).frozen? ⟨w.heap.size + 1 + 1, 1, none⟩ = false := kf _ _ (two _ _ _) u5 uf1
  have vg0 : ((w2.alloc (.cells #[.int .u64 0, .int .u64 al] 54)).alloc (.cells #[.int .u64 xh, .int .u64 xl] 54)).cell? ⟨bg, 0, none⟩ = some (.int .u64 gh) := kc _ _ (two _ _ _) ug0
  have vg1 : ((w2.alloc (.cells #[.int .u64 0, .int .u64 al] 54)).alloc (.cells #[.int .u64 xh, .int .u64 xl] 54)).cell? ⟨bg, 1, none⟩ = some (.int .u64 gl) := kc _ _ (two _ _ _) ug1
  have vn0 : ((w2.alloc (.cells #[.int .u64 0, .int .u64 al] 54)).alloc (.cells #[.int .u64 xh, .int .u64 xl] 54)).cell? ⟨w2.heap.size, 0, none⟩ = some (.int .u64 0) := newC3 w2 _ _ _ 0
  have vn1 : ((w2.alloc (.cells #[.int .u64 0, .int .u64 al] 54)).alloc (.cells #[.int .u64 xh, .int .u64 xl] 54)).cell? ⟨w2.heap.size, 1, none⟩ = some (.int .u64 al) := newC3 w2 _ _ _ 1
  have hB3 : Below w.heap.size w ((w2.alloc (.cells #[.int .u64 0, .int .u64 al] 54)).alloc (.cells #[.int .u64 xh, .int .u64 xl] 54)) := beyond hB2 (two _ _ _)
  clear u0 u1 u2 u3 u4 u5 uf0 uf1 ug0 ug1 hB2
  generalize ((w2.alloc (.cells #[.int .u64 0, .int .u64 al] 54)).alloc (.cells #[.int .u64 xh, .int .u64 xl] 54)) = W2 at *
  generalize w2.heap.size = bn at *
  go_wp2_with fail
  refine (HD2.out _).mono ?_
  rintro e w3 ⟨rfl, hb⟩
  have u4 := kc _ _ hb v4
  have u5 := kc _ _ hb v5
  have uf0 := kf _ _ hb v4 vf0
  have uf1 := kf _ _ hb v5 vf1
  have un0 := kc _ _ hb vn0
  have un1 := kc _ _ hb vn1
  have hB4 : Below w.heap.size w w3 := beyond hB3 hb
  clear hb v0 v1 v2 v3 v4 v5 vf0 vf1 vg0 vg1 vn0 vn1 hB3 HD2 hq
  go_upto_region 6 with (fail)
  have x4 : ((w3.alloc (.cells #[.int .u64 bh, .int .u64 bl] 54)).alloc (.cells #[.int .u64 yh, .int .u64 yl] 54)).cell? ⟨w.heap.size + 1 + 1, 0, none⟩ = some (.int .i64 0) := kc _ _ (two _ _ _) u4
  have x5 : ((w3.alloc (.cells #[.int .u64 bh, .int .u64 bl] 54)).alloc (.cells #[.int .u64 yh, .int .u64 yl] 54)).cell? ⟨w.heap.size + 1 + 1, 1, none⟩ = some (.int .i64 0) := kc _ _ (two _ _ _) u5
  have xf0 : ((w3.alloc (.cells #[.int .u64 bh, .int .u64 bl] 54)).alloc (.cells #[.int .u64 yh, .int .u64 yl] 54)).frozen? ⟨w.heap.size + 1 + 1, 0, none⟩ = false := kf _ _ (two _ _ _) u4 uf0
  have xf1 : ((w3.alloc (.cells #[.int .u64 bh, .int .u64 bl] 54)).alloc (.cells #[.int .u64 yh, .int .u64 yl] 54)).frozen? ⟨w.heap.size + 1 + 1, 1, none⟩ = false := kf _ _ (two _ _ _) u5 uf1
  have xn0 : ((w3.alloc (.cells #[.int .u64 bh, .int .u64 bl] 54)).alloc (.cells #[.int .u64 yh, .int .u64 yl] 54)).cell? ⟨bn, 0, none⟩ = some (.int .u64 0) := kc _ _ (two _ _ _) un0
  have xn1 : ((w3.alloc (.cells #[.int .u64 bh, .int .u64 bl] 54)).alloc (.cells #[.int .u64 yh, .int .u64 yl] 54)).cell? ⟨bn, 1, none⟩ = some (.int .u64 al) := kc _ _ (two _ _ _) un1
  have xd0 : ((w3.alloc (.cells #[.int .u64 bh, .int .u64 bl] 54)).alloc (.cells #[.int .u64 yh, .int .u64 yl] 54)).cell? ⟨w3.heap.size, 0, none⟩ = some (.int .u64 bh) := newC3 w3 _ _ _ 0
  have xd1 : ((w3.alloc (.cells #[.int .u64 bh, .int .u64 bl] 54)).alloc (.cells #[.int .u64 yh, .int .u64 yl] 54)).cell? ⟨w3.heap.size, 1, none⟩ = some (.int .u64 bl) := newC3 w3 _ _ _ 1
  have hB5 : Below w.heap.size w ((w3.alloc (.cells #[.int .u64 bh, .int .u64 bl] 54)).alloc (.cells #[.int .u64 yh, .int .u64 yl] 54)) := beyond hB4 (two _ _ _)
  clear u4 u5 uf0 uf1 un0 un1 hB4
  generalize ((w3.alloc (.cells #[.int .u64 bh, .int .u64 bl] 54)).alloc (.cells #[.int .u64 yh, .int .u64 yl] 54)) = W3 at *
  generalize w3.heap.size = bd at *
  have y4 : ∀ O, (W3.alloc O).cell? ⟨w.heap.size + 1 + 1, 0, none⟩ = some (.int .i64 0) := fun O => kc _ _ (single _ _) x4
  have y5 : ∀ O, (W3.alloc O).cell? ⟨w.heap.size + 1 + 1, 1, none⟩ = some (.int .i64 0) := fun O => kc _ _ (single _ _) x5
  have yn0 : ∀ O, (W3.alloc O).cell? ⟨bn, 0, none⟩ = some (.int .u64 0) := fun O => kc _ _ (single _ _) xn0
  have yn1 : ∀ O, (W3.alloc O).cell? ⟨bn, 1, none⟩ = some (.int .u64 al) := fun O => kc _ _ (single _ _) xn1
  have yf0 : ∀ O, (W3.alloc O).frozen? ⟨w.heap.size + 1 + 1, 0, none⟩ = false := fun O => kf _ _ (single _ _) x4 xf0
  have yf1 : ∀ O, (W3.alloc O).frozen? ⟨w.heap.size + 1 + 1, 1, none⟩ = false := fun O => kf _ _ (single _ _) x5 xf1
  have l3 : w.heap.size + 1 + 1 < W3.heap.size := World.block_lt_of_cell? _ _ x4
  have l4 : bn < W3.heap.size := World.block_lt_of_cell? _ _ xn0
  have m1 : ¬ W3.heap.size = w.heap.size + 1 + 1 := by omega
  have m2 : ¬ w.heap.size + 1 + 1 = W3.heap.size := by omega
  have m3 : ¬ W3.heap.size = bn := by omega
  have m4 : ¬ bn = W3.heap.size := by omega
  have HB6 := hideR (show ∀ O, Below w.heap.size w (W3.alloc O) from fun O => beyond hB5 (single _ _))
  have HB5 := hideR hB5
  clear l1 l3 l4 hB5
  go_wp2_with fail
  refine bodyPost_ret (v := trip (0, 0, 20)) (by simp [results, Tryd.results38, go_sem, *]) rfl ⟨rfl, ?_⟩
  first | exact set2 HB5.out (by omega) _ _ | exact set2 (HB6.out _) (by omega) _ _ | exact HB5.out | (refine set2 (Below.setCell (HB6.out _) ?_ _) (by omega) _ _; have := (HB6.out default).size; simp at this; omega) | trace_state
set_option maxRecDepth 100000 in
set_option maxHeartbeats 8000000 in
theorem xheld_l_false_f4 (ph pl qh ql gh gl al bl xh xl yh yl : Int) (w : World) (hq : ¬ ql = 0) (e2 : ¬ 9223372036854775807 < al) (hc : 9223372036854775807 < bl)
    (HC : Hid (∀ w, Calls Tryd.prog 42 #[.agg #[.int .u64 ph, .int .u64 pl], .agg #[.int .u64 qh, .int .u64 ql]] w fun e w' => e = .returned (.agg #[.int .u64 gh, .int .u64 gl]) ∧ Below w.heap.size w w'))
    (HD1 : Hid (∀ w, Calls Tryd.prog 65 #[.agg #[.int .u64 ph, .int .u64 pl], .agg #[.int .u64 gh, .int .u64 gl]] w fun e w' => e = .returned (.tuple #[.agg #[.int .u64 0, .int .u64 al], .agg #[.int .u64 xh, .int .u64 xl]]) ∧ Below w.heap.size w w'))
    (HD2 : Hid (∀ w, Calls Tryd.prog 65 #[.agg #[.int .u64 qh, .int .u64 ql], .agg #[.int .u64 gh, .int .u64 gl]] w fun e w' => e = .returned (.tuple #[.agg #[.int .u64 0, .int .u64 bl], .agg #[.int .u64 yh, .int .u64 yl]]) ∧ Below w.heap.size w w')) :
    Calls Tryd.prog 38 #[.bool false, .agg #[.int .u64 ph, .int .u64 pl], .agg #[.int .u64 qh, .int .u64 ql]] w fun e w' => e = .returned (trip (0, 0, 20)) ∧ Below w.heap.size w w' := by
  have n1 : ¬ w.heap.size = w.heap.size + 1 + 1 := by omega
  have n2 : ¬ w.heap.size + 1 + 1 = w.heap.size := by omega
  go_enter Tryd.func38, Tryd.ntmps38
  go_wp2_with fail
  refine (HC.out _).mono ?_
  rintro e w1 ⟨rfl, hb⟩
  have s0 := kc ⟨w.heap.size, 0, none⟩ (.int .u64 ph) hb (by first | assumption | simp [go_sem, *])
  have s1 := kc ⟨w.heap.size, 1, none⟩ (.int .u64 pl) hb (by first | assumption | simp [go_sem, *])
  have s2 := kc ⟨w.heap.size + 1, 0, none⟩ (.int .u64 qh) hb (by first | assumption | simp [go_sem, *])
  have s3 := kc ⟨w.heap.size + 1, 1, none⟩ (.int .u64 ql) hb (by first | assumption | simp [go_sem, *])
  have s4 := kc ⟨w.heap.size + 1 + 1, 0, none⟩ (.int .i64 0) hb (by first | assumption | simp [go_sem, *])
  have s5 := kc ⟨w.heap.size + 1 + 1, 1, none⟩ (.int .i64 0) hb (by first | assumption | simp [go_sem, *])
  have sf0 := kf ⟨w.heap.size + 1 + 1, 0, none⟩ (.int .i64 0) hb (by first | assumption | simp [go_sem, *]) (by first | assumption | simp [go_sem, *])
  have sf1 := kf ⟨w.heap.size + 1 + 1, 1, none⟩ (.int .i64 0) hb (by first | assumption | simp [go_sem, *]) (by first | assumption | simp [go_sem, *])
  have hB1 : Below w.heap.size w w1 := beyond (three w _ _ _) hb
  clear hb
  have l1 : w.heap.size + 1 + 1 < w1.heap.size := World.block_lt_of_cell? _ _ s4
  go_upto_region 4 with (fail)
  have t0 : (w1.alloc (.cells #[.int .u64 gh, .int .u64 gl] 54)).cell? ⟨w.heap.size, 0, none⟩ = some (.int .u64 ph) := kc _ _ (single _ _) s0
  have t1 : (w1.alloc (.cells #[.int .u64 gh, .int .u64 gl] 54)).cell? ⟨w.heap.size, 1, none⟩ = some (.int .u64 pl) := kc _ _ (single _ _) s1
  have t2 : (w1.alloc (.cells #[.int .u64 gh, .int .u64 gl] 54)).cell? ⟨w.heap.size + 1, 0, none⟩ = some (.int .u64 qh) := kc _ _ (single _ _) s2
  have t3 : (w1.alloc (.cells #[.int .u64 gh, .int .u64 gl] 54)).cell? ⟨w.heap.size + 1, 1, none⟩ = some (.int .u64 ql) := kc _ _ (single _ _) s3
  have t4 : (w1.alloc (.cells #[.int .u64 gh, .int .u64 gl] 54)).cell? ⟨w.heap.size + 1 + 1, 0, none⟩ = some (.int .i64 0) := kc _ _ (single _ _) s4
  have t5 : (w1.alloc (.cells #[.int .u64 gh, .int .u64 gl] 54)).cell? ⟨w.heap.size + 1 + 1, 1, none⟩ = some (.int .i64 0) := kc _ _ (single _ _) s5
  have tf0 : (w1.alloc (.cells #[.int .u64 gh, .int .u64 gl] 54)).frozen? ⟨w.heap.size + 1 + 1, 0, none⟩ = false := kf _ _ (single _ _) s4 sf0
  have tf1 : (w1.alloc (.cells #[.int .u64 gh, .int .u64 gl] 54)).frozen? ⟨w.heap.size + 1 + 1, 1, none⟩ = false := kf _ _ (single _ _) s5 sf1
  have tg0 : (w1.alloc (.cells #[.int .u64 gh, .int .u64 gl] 54)).cell? ⟨w1.heap.size, 0, none⟩ = some (.int .u64 gh) := new_cell w1 _ _ 0
  have tg1 : (w1.alloc (.cells #[.int .u64 gh, .int .u64 gl] 54)).cell? ⟨w1.heap.size, 1, none⟩ = some (.int .u64 gl) := new_cell w1 _ _ 1
  have hBG : Below w.heap.size w (w1.alloc (.cells #[.int .u64 gh, .int .u64 gl] 54)) := beyond hB1 (single _ _)
  clear s0 s1 s2 s3 s4 s5 sf0 sf1 hB1 HC
  generalize (w1.alloc (.cells #[.int .u64 gh, .int .u64 gl] 54)) = W1 at *
  generalize w1.heap.size = bg at *
  go_wp2_with fail
  refine (HD1.out _).mono ?_
  rintro e w2 ⟨rfl, hb⟩
  have u0 := kc _ _ hb t0
  have u1 := kc _ _ hb t1
  have u2 := kc _ _ hb t2
  have u3 := kc _ _ hb t3
  have u4 := kc _ _ hb t4
  have u5 := kc _ _ hb t5
  have uf0 := kf _ _ hb t4 tf0
  have uf1 := kf _ _ hb t5 tf1
  have ug0 := kc _ _ hb tg0
  have ug1 := kc _ _ hb tg1
  have hB2 : Below w.heap.size w w2 := beyond hBG hb
  clear hb t0 t1 t2 t3 t4 t5 tf0 tf1 tg0 tg1 hBG HD1
  go_upto_region 5 with (fail)
  have v0 : ((w2.alloc (.cells #[.int .u64 0, .int .u64 al] 54)).alloc (.cells #[.int .u64 xh, .int .u64 xl] 54)).cell? ⟨w.heap.size, 0, none⟩ = some (.int .u64 ph) := kc _ _ (two _ _ _) u0
  have v1 : ((w2.alloc (.cells #[.int .u64 0, .int .u64 al] 54)).alloc (.cells #[.int .u64 xh, .int .u64 xl] 54)).cell? ⟨w.heap.size, 1, none⟩ = some (.int .u64 pl) := kc _ _ (two _ _ _) u1
  have v2 : ((w2.alloc (.cells #[.int .u64 0, .int .u64 al] 54)).alloc (.cells #[.int .u64 xh, .int .u64 xl] 54)).cell? ⟨w.heap.size + 1, 0, none⟩ = some (.int .u64 qh) := kc _ _ (two _ _ _) u2
  have v3 : ((w2.alloc (.cells #[.int .u64 0, .int .u64 al] 54)).alloc (.cells #[.int .u64 xh, .int .u64 xl] 54)).cell? ⟨w.heap.size + 1, 1, none⟩ = some (.int .u64 ql) := kc _ _ (two _ _ _) u3
  have v4 : ((w2.alloc (.cells #[.int .u64 0, .int .u64 al] 54)).alloc (.cells #[.int .u64 xh, .int .u64 xl] 54)).cell? ⟨w.heap.size + 1 + 1, 0, none⟩ = some (.int .i64 0) := kc _ _ (two _ _ _) u4
  have v5 : ((w2.alloc (.cells #[.int .u64 0, .int .u64 al] 54)).alloc (.cells #[.int .u64 xh, .int .u64 xl] 54)).cell? ⟨w.heap.size + 1 + 1, 1, none⟩ = some (.int .i64 0) := kc _ _ (two _ _ _) u5
  have vf0 : ((w2.alloc (.cells #[.int .u64 0, .int .u64 al] 54)).alloc (.cells #[.int .u64 xh, .int .u64 xl] 54)).frozen? ⟨w.heap.size + 1 + 1, 0, none⟩ = false := kf _ _ (two _ _ _) u4 uf0
  have vf1 : ((w2.alloc (.cells #[.int .u64 0, .int .u64 al] 54)).alloc (.cells #[.int .u64 xh, .int .u64 xl] 54)).frozen? ⟨w.heap.size + 1 + 1, 1, none⟩ = false := kf _ _ (two _ _ _) u5 uf1
  have vg0 : ((w2.alloc (.cells #[.int .u64 0, .int .u64 al] 54)).alloc (.cells #[.int .u64 xh, .int .u64 xl] 54)).cell? ⟨bg, 0, none⟩ = some (.int .u64 gh) := kc _ _ (two _ _ _) ug0
  have vg1 : ((w2.alloc (.cells #[.int .u64 0, .int .u64 al] 54)).alloc (.cells #[.int .u64 xh, .int .u64 xl] 54)).cell? ⟨bg, 1, none⟩ = some (.int .u64 gl) := kc _ _ (two _ _ _) ug1
  have vn0 : ((w2.alloc (.cells #[.int .u64 0, .int .u64 al] 54)).alloc (.cells #[.int .u64 xh, .int .u64 xl] 54)).cell? ⟨w2.heap.size, 0, none⟩ = some (.int .u64 0) := newC3 w2 _ _ _ 0
  have vn1 : ((w2.alloc (.cells #[.int .u64 0, .int .u64 al] 54)).alloc (.cells #[.int .u64 xh, .int .u64 xl] 54)).cell? ⟨w2.heap.size, 1, none⟩ = some (.int .u64 al) := newC3 w2 _ _ _ 1
  have hB3 : Below w.heap.size w ((w2.alloc (.cells #[.int .u64 0, .int .u64 al] 54)).alloc (.cells #[.int .u64 xh, .int .u64 xl] 54)) := beyond hB2 (two _ _ _)
  clear u0 u1 u2 u3 u4 u5 uf0 uf1 ug0 ug1 hB2
  generalize ((w2.alloc (.cells #[.int .u64 0, .int .u64 al] 54)).alloc (.cells #[.int .u64 xh, .int .u64 xl] 54)) = W2 at *
  generalize w2.heap.size = bn at *
  go_wp2_with fail
  refine (HD2.out _).mono ?_
  rintro e w3 ⟨rfl, hb⟩
  have u4 := kc _ _ hb v4
  have u5 := kc _ _ hb v5
  have uf0 := kf _ _ hb v4 vf0
  have uf1 := kf _ _ hb v5 vf1
  have un0 := kc _ _ hb vn0
  have un1 := kc _ _ hb vn1
  have hB4 : Below w.heap.size w w3 := beyond hB3 hb
  clear hb v0 v1 v2 v3 v4 v5 vf0 vf1 vg0 vg1 vn0 vn1 hB3 HD2 hq
  go_upto_region 6 with (fail)
  have x4 : ((w3.alloc (.cells #[.int .u64 0, .int .u64 bl] 54)).alloc (.cells #[.int .u64 yh, .int .u64 yl] 54)).cell? ⟨w.heap.size + 1 + 1, 0, none⟩ = some (.int .i64 0) := kc _ _ (two _ _ _) u4
  have x5 : ((w3.alloc (.cells #[.int .u64 0, .int .u64 bl] 54)).alloc (.cells #[.int .u64 yh, .int .u64 yl] 54)).cell? ⟨w.heap.size + 1 + 1, 1, none⟩ = some (.int .i64 0) := kc _ _ (two _ _ _) u5
  have xf0 : ((w3.alloc (.cells #[.int .u64 0, .int .u64 bl] 54)).alloc (.cells #[.int .u64 yh, .int .u64 yl] 54)).frozen? ⟨w.heap.size + 1 + 1, 0, none⟩ = false := kf _ _ (two _ _ _) u4 uf0
  have xf1 : ((w3.alloc (.cells #[.int .u64 0, .int .u64 bl] 54)).alloc (.cells #[.int .u64 yh, .int .u64 yl] 54)).frozen? ⟨w.heap.size + 1 + 1, 1, none⟩ = false := kf _ _ (two _ _ _) u5 uf1
  have xn0 : ((w3.alloc (.cells #[.int .u64 0, .int .u64 bl] 54)).alloc (.cells #[.int .u64 yh, .int .u64 yl] 54)).cell? ⟨bn, 0, none⟩ = some (.int .u64 0) := kc _ _ (two _ _ _) un0
  have xn1 : ((w3.alloc (.cells #[.int .u64 0, .int .u64 bl] 54)).alloc (.cells #[.int .u64 yh, .int .u64 yl] 54)).cell? ⟨bn, 1, none⟩ = some (.int .u64 al) := kc _ _ (two _ _ _) un1
  have xd0 : ((w3.alloc (.cells #[.int .u64 0, .int .u64 bl] 54)).alloc (.cells #[.int .u64 yh, .int .u64 yl] 54)).cell? ⟨w3.heap.size, 0, none⟩ = some (.int .u64 0) := newC3 w3 _ _ _ 0
  have xd1 : ((w3.alloc (.cells #[.int .u64 0, .int .u64 bl] 54)).alloc (.cells #[.int .u64 yh, .int .u64 yl] 54)).cell? ⟨w3.heap.size, 1, none⟩ = some (.int .u64 bl) := newC3 w3 _ _ _ 1
  have hB5 : Below w.heap.size w ((w3.alloc (.cells #[.int .u64 0, .int .u64 bl] 54)).alloc (.cells #[.int .u64 yh, .int .u64 yl] 54)) := beyond hB4 (two _ _ _)
  clear u4 u5 uf0 uf1 un0 un1 hB4
  generalize ((w3.alloc (.cells #[.int .u64 0, .int .u64 bl] 54)).alloc (.cells #[.int .u64 yh, .int .u64 yl] 54)) = W3 at *
  generalize w3.heap.size = bd at *
  have y4 : ∀ O, (W3.alloc O).cell? ⟨w.heap.size + 1 + 1, 0, none⟩ = some (.int .i64 0) := fun O => kc _ _ (single _ _) x4
  have y5 : ∀ O, (W3.alloc O).cell? ⟨w.heap.size + 1 + 1, 1, none⟩ = some (.int .i64 0) := fun O => kc _ _ (single _ _) x5
  have yn0 : ∀ O, (W3.alloc O).cell? ⟨bn, 0, none⟩ = some (.int .u64 0) := fun O => kc _ _ (single _ _) xn0
  have yn1 : ∀ O, (W3.alloc O).cell? ⟨bn, 1, none⟩ = some (.int .u64 al) := fun O => kc _ _ (single _ _) xn1
  have yf0 : ∀ O, (W3.alloc O).frozen? ⟨w.heap.size + 1 + 1, 0, none⟩ = false := fun O => kf _ _ (single _ _) x4 xf0
  have yf1 : ∀ O, (W3.alloc O).frozen? ⟨w.heap.size + 1 + 1, 1, none⟩ = false := fun O => kf _ _ (single _ _) x5 xf1
  have l3 : w.heap.size + 1 + 1 < W3.heap.size := World.block_lt_of_cell? _ _ x4
  have l4 : bn < W3.heap.size := World.block_lt_of_cell? _ _ xn0
  have m1 : ¬ W3.heap.size = w.heap.size + 1 + 1 := by omega
  have m2 : ¬ w.heap.size + 1 + 1 = W3.heap.size := by omega
  have m3 : ¬ W3.heap.size = bn := by omega
  have m4 : ¬ bn = W3.heap.size := by omega
  have HB6 := hideR (show ∀ O, Below w.heap.size w (W3.alloc O) from fun O => beyond hB5 (single _ _))
  have HB5 := hideR hB5
  clear l1 l3 l4 hB5
  go_wp2_with fail
  refine bodyPost_ret (v := trip (0, 0, 20)) (by simp [results, Tryd.results38, go_sem, *]) rfl ⟨rfl, ?_⟩
  first | exact set2 HB5.out (by omega) _ _ | exact set2 (HB6.out _) (by omega) _ _ | exact HB5.out | (refine set2 (Below.setCell (HB6.out _) ?_ _) (by omega) _ _; have := (HB6.out default).size; simp at this; omega) | trace_state
set_option maxRecDepth 100000 in
set_option maxHeartbeats 8000000 in
theorem xheld_l_false_ok (ph pl qh ql gh gl al bl xh xl yh yl : Int) (w : World) (hq : ¬ ql = 0) (nn : Int) (e2 : ¬ 9223372036854775807 < al) (hc : ¬ 9223372036854775807 < bl) (z1 : IntKind.i64.wrap bl = bl) (z2 : IntKind.i64.wrap al = nn)
    (HC : Hid (∀ w, Calls Tryd.prog 42 #[.agg #[.int .u64 ph, .int .u64 pl], .agg #[.int .u64 qh, .int .u64 ql]] w fun e w' => e = .returned (.agg #[.int .u64 gh, .int .u64 gl]) ∧ Below w.heap.size w w'))
    (HD1 : Hid (∀ w, Calls Tryd.prog 65 #[.agg #[.int .u64 ph, .int .u64 pl], .agg #[.int .u64 gh, .int .u64 gl]] w fun e w' => e = .returned (.tuple #[.agg #[.int .u64 0, .int .u64 al], .agg #[.int .u64 xh, .int .u64 xl]]) ∧ Below w.heap.size w w'))
    (HD2 : Hid (∀ w, Calls Tryd.prog 65 #[.agg #[.int .u64 qh, .int .u64 ql], .agg #[.int .u64 gh, .int .u64 gl]] w fun e w' => e = .returned (.tuple #[.agg #[.int .u64 0, .int .u64 bl], .agg #[.int .u64 yh, .int .u64 yl]]) ∧ Below w.heap.size w w')) :
    Calls Tryd.prog 38 #[.bool false, .agg #[.int .u64 ph, .int .u64 pl], .agg #[.int .u64 qh, .int .u64 ql]] w fun e w' => e = .returned (trip (nn, bl, 0)) ∧ Below w.heap.size w w' := by
  have n1 : ¬ w.heap.size = w.heap.size + 1 + 1 := by omega
  have n2 : ¬ w.heap.size + 1 + 1 = w.heap.size := by omega
  go_enter Tryd.func38, Tryd.ntmps38
  go_wp2_with fail
  refine (HC.out _).mono ?_
  rintro e w1 ⟨rfl, hb⟩
  have s0 := kc ⟨w.heap.size, 0, none⟩ (.int .u64 ph) hb (by first | assumption | simp [go_sem, *])
  have s1 := kc ⟨w.heap.size, 1, none⟩ (.int .u64 pl) hb (by first | assumption | simp [go_sem, *])
  have s2 := kc ⟨w.heap.size + 1, 0, none⟩ (.int .u64 qh) hb (by first | assumption | simp [go_sem, *])
  have s3 := kc ⟨w.heap.size + 1, 1, none⟩ (.int .u64 ql) hb (by first | assumption | simp [go_sem, *])
  have s4 := kc ⟨w.heap.size + 1 + 1, 0, none⟩ (.int .i64 0) hb (by first | assumption | simp [go_sem, *])
  have s5 := kc ⟨w.heap.size + 1 + 1, 1, none⟩ (.int .i64 0) hb (by first | assumption | simp [go_sem, *])
  have sf0 := kf ⟨w.heap.size + 1 + 1, 0, none⟩ (.int .i64 0) hb (by first | assumption | simp [go_sem, *]) (by first | assumption | simp [go_sem, *])
  have sf1 := kf ⟨w.heap.size + 1 + 1, 1, none⟩ (.int .i64 0) hb (by first | assumption | simp [go_sem, *]) (by first | assumption | simp [go_sem, *])
  have hB1 : Below w.heap.size w w1 := beyond (three w _ _ _) hb
  clear hb
  have l1 : w.heap.size + 1 + 1 < w1.heap.size := World.block_lt_of_cell? _ _ s4
  go_upto_region 4 with (fail)
  have t0 : (w1.alloc (.cells #[.int .u64 gh, .int .u64 gl] 54)).cell? ⟨w.heap.size, 0, none⟩ = some (.int .u64 ph) := kc _ _ (single _ _) s0
  have t1 : (w1.alloc (.cells #[.int .u64 gh, .int .u64 gl] 54)).cell? ⟨w.heap.size, 1, none⟩ = some (.int .u64 pl) := kc _ _ (single _ _) s1
  have t2 : (w1.alloc (.cells #[.int .u64 gh, .int .u64 gl] 54)).cell? ⟨w.heap.size + 1, 0, none⟩ = some (.int .u64 qh) := kc _ _ (single _ _) s2
  have t3 : (w1.alloc (.cells #[.int .u64 gh, .int .u64 gl] 54)).cell? ⟨w.heap.size + 1, 1, none⟩ = some (.int .u64 ql) := kc _ _ (single _ _) s3
  have t4 : (w1.alloc (.cells #[.int .u64 gh, .int .u64 gl] 54)).cell? ⟨w.heap.size + 1 + 1, 0, none⟩ = some (.int .i64 0) := kc _ _ (single _ _) s4
  have t5 : (w1.alloc (.cells #[.int .u64 gh, .int .u64 gl] 54)).cell? ⟨w.heap.size + 1 + 1, 1, none⟩ = some (.int .i64 0) := kc _ _ (single _ _) s5
  have tf0 : (w1.alloc (.cells #[.int .u64 gh, .int .u64 gl] 54)).frozen? ⟨w.heap.size + 1 + 1, 0, none⟩ = false := kf _ _ (single _ _) s4 sf0
  have tf1 : (w1.alloc (.cells #[.int .u64 gh, .int .u64 gl] 54)).frozen? ⟨w.heap.size + 1 + 1, 1, none⟩ = false := kf _ _ (single _ _) s5 sf1
  have tg0 : (w1.alloc (.cells #[.int .u64 gh, .int .u64 gl] 54)).cell? ⟨w1.heap.size, 0, none⟩ = some (.int .u64 gh) := new_cell w1 _ _ 0
  have tg1 : (w1.alloc (.cells #[.int .u64 gh, .int .u64 gl] 54)).cell? ⟨w1.heap.size, 1, none⟩ = some (.int .u64 gl) := new_cell w1 _ _ 1
  have hBG : Below w.heap.size w (w1.alloc (.cells #[.int .u64 gh, .int .u64 gl] 54)) := beyond hB1 (single _ _)
  clear s0 s1 s2 s3 s4 s5 sf0 sf1 hB1 HC
  generalize (w1.alloc (.cells #[.int .u64 gh, .int .u64 gl] 54)) = W1 at *
  generalize w1.heap.size = bg at *
  go_wp2_with fail
  refine (HD1.out _).mono ?_
  rintro e w2 ⟨rfl, hb⟩
  have u0 := kc _ _ hb t0
  have u1 := kc _ _ hb t1
  have u2 := kc _ _ hb t2
  have u3 := kc _ _ hb t3
  have u4 := kc _ _ hb t4
  have u5 := kc _ _ hb t5
  have uf0 := kf _ _ hb t4 tf0
  have uf1 := kf _ _ hb t5 tf1
  have ug0 := kc _ _ hb tg0
  have ug1 := kc _ _ hb tg1
  have hB2 : Below w.heap.size w w2 := beyond hBG hb
  clear hb t0 t1 t2 t3 t4 t5 tf0 tf1 tg0 tg1 hBG HD1
  go_upto_region 5 with (fail)
  have v0 : ((w2.alloc (.cells #[.int .u64 0, .int .u64 al] 54)).alloc (.cells #[.int .u64 xh, .int .u64 xl] 54)).cell? ⟨w.heap.size, 0, none⟩ = some (.int .u64 ph) := kc _ _ (two _ _ _) u0
  have v1 : ((w2.alloc (.cells #[.int .u64 0, .int .u64 al] 54)).alloc (.cells #[.int .u64 xh, .int .u64 xl] 54)).cell? ⟨w.heap.size, 1, none⟩ = some (.int .u64 pl) := kc _ _ (two _ _ _) u1
  have v2 : ((w2.alloc (.cells #[.int .u64 0, .int .u64 al] 54)).alloc (.cells #[.int .u64 xh, .int .u64 xl] 54)).cell? ⟨w.heap.size + 1, 0, none⟩ = some (.int .u64 qh) := kc _ _ (two _ _ _) u2
  have v3 : ((w2.alloc (.cells #[.int .u64 0, .int .u64 al] 54)).alloc (.cells #[.int .u64 xh, .int .u64 xl] 54)).cell? ⟨w.heap.size + 1, 1, none⟩ = some (.int .u64 ql) := kc _ _ (two _ _ _) u3
  have v4 : ((w2.alloc (.cells #[.int .u64 0, .int .u64 al] 54)).alloc (.cells #[.int .u64 xh, .int .u64 xl] 54)).cell? ⟨w.heap.size + 1 + 1, 0, none⟩ = some (.int .i64 0) := kc _ _ (two _ _ _) u4
  have v5 : ((w2.alloc (.cells #[.int .u64 0, .int .u64 al] 54)).alloc (.cells #[.int .u64 xh, .int .u64 xl] 54)).cell? ⟨w.heap.size + 1 + 1, 1, none⟩ = some (.int .i64 0) := kc _ _ (two _ _ _) u5
  have vf0 : ((w2.alloc (.cells #[.int .u64 0, .int .u64 al] 54)).alloc (.cells #[.int .u64 xh, .int .u64 xl] 54)).frozen? ⟨w.heap.size + 1 + 1, 0, none⟩ = false := kf _ _ (two _ _ _) u4 uf0
  have vf1 : ((w2.alloc (.cells #[.int .u64 0, .int .u64 al] 54)).alloc (.cells #[.int .u64 xh, .int .u64 xl] 54)).frozen? ⟨w.heap.size + 1 + 1, 1, none⟩ = false := kf _ _ (two _ _ _) u5 uf1
  have vg0 : ((w2.alloc (.cells #[.int .u64 0, .int .u64 al] 54)).alloc (.cells #[.int .u64 xh, .int .u64 xl] 54)).cell? ⟨bg, 0, none⟩ = some (.int .u64 gh) := kc _ _ (two _ _ _) ug0
  have vg1 : ((w2.alloc (.cells #[.int .u64 0, .int .u64 al] 54)).alloc (.cells #[.int .u64 xh, .int .u64 xl] 54)).cell? ⟨bg, 1, none⟩ = some (.int .u64 gl) := kc _ _ (two _ _ _) ug1
  have vn0 : ((w2.alloc (.cells #[.int .u64 0, .int .u64 al] 54)).alloc (.cells #[.int .u64 xh, .int .u64 xl] 54)).cell? ⟨w2.heap.size, 0, none⟩ = some (.int .u64 0) := newC3 w2 _ _ _ 0
  have vn1 : ((w2.alloc (.cells #[.int .u64 0, .int .u64 al] 54)).alloc (.cells #[.int .u64 xh, .int .u64 xl] 54)).cell? ⟨w2.heap.size, 1, none⟩ = some (.int .u64 al) := newC3 w2 _ _ _ 1
  have hB3 : Below w.heap.size w ((w2.alloc (.cells #[.int .u64 0, .int .u64 al] 54)).alloc (.cells #[.int .u64 xh, .int .u64 xl] 54)) := beyond hB2 (two _ _ _)
  clear u0 u1 u2 u3 u4 u5 uf0 uf1 ug0 ug1 hB2
  generalize ((w2.alloc (.cells #[.int .u64 0, .int .u64 al] 54)).alloc (.cells #[.int .u64 xh, .int .u64 xl] 54)) = W2 at *
  generalize w2.heap.size = bn at *
  go_wp2_with fail
  refine (HD2.out _).mono ?_
  rintro e w3 ⟨rfl, hb⟩
  have u4 := kc _ _ hb v4
  have u5 := kc _ _ hb v5
  have uf0 := kf _ _ hb v4 vf0
  have uf1 := kf _ _ hb v5 vf1
  have un0 := kc _ _ hb vn0
  have un1 := kc _ _ hb vn1
  have hB4 : Below w.heap.size w w3 := beyond hB3 hb
  clear hb v0 v1 v2 v3 v4 v5 vf0 vf1 vg0 vg1 vn0 vn1 hB3 HD2 hq
  go_upto_region 6 with (fail)
  have x4 : ((w3.alloc (.cells #[.int .u64 0, .int .u64 bl] 54)).alloc (.cells #[.int .u64 yh, .int .u64 yl] 54)).cell? ⟨w.heap.size + 1 + 1, 0, none⟩ = some (.int .i64 0) := kc _ _ (two _ _ _) u4
  have x5 : ((w3.alloc (.cells #[.int .u64 0, .int .u64 bl] 54)).alloc (.cells #[.int .u64 yh, .int .u64 yl] 54)).cell? ⟨w.heap.size + 1 + 1, 1, none⟩ = some (.int .i64 0) := kc _ _ (two _ _ _) u5
  have xf0 : ((w3.alloc (.cells #[.int .u64 0, .int .u64 bl] 54)).alloc (.cells #[.int .u64 yh, .int .u64 yl] 54)).frozen? ⟨w.heap.size + 1 + 1, 0, none⟩ = false := kf _ _ (two _ _ _) u4 uf0
  have xf1 : ((w3.alloc (.cells #[.int .u64 0, .int .u64 bl] 54)).alloc (.cells #[.int .u64 yh, .int .u64 yl] 54)).frozen? ⟨w.heap.size + 1 + 1, 1, none⟩ = false := kf _ _ (two _ _ _) u5 uf1
  have xn0 : ((w3.alloc (.cells #[.int .u64 0, .int .u64 bl] 54)).alloc (.cells #[.int .u64 yh, .int .u64 yl] 54)).cell? ⟨bn, 0, none⟩ = some (.int .u64 0) := kc _ _ (two _ _ _) un0
  have xn1 : ((w3.alloc (.cells #[.int .u64 0, .int .u64 bl] 54)).alloc (.cells #[.int .u64 yh, .int .u64 yl] 54)).cell? ⟨bn, 1, none⟩ = some (.int .u64 al) := kc _ _ (two _ _ _) un1
  have xd0 : ((w3.alloc (.cells #[.int .u64 0, .int .u64 bl] 54)).alloc (.cells #[.int .u64 yh, .int .u64 yl] 54)).cell? ⟨w3.heap.size, 0, none⟩ = some (.int .u64 0) := newC3 w3 _ _ _ 0
  have xd1 : ((w3.alloc (.cells #[.int .u64 0, .int .u64 bl] 54)).alloc (.cells #[.int .u64 yh, .int .u64 yl] 54)).cell? ⟨w3.heap.size, 1, none⟩ = some (.int .u64 bl) := newC3 w3 _ _ _ 1
  have hB5 : Below w.heap.size w ((w3.alloc (.cells #[.int .u64 0, .int .u64 bl] 54)).alloc (.cells #[.int .u64 yh, .int .u64 yl] 54)) := beyond hB4 (two _ _ _)
  clear u4 u5 uf0 uf1 un0 un1 hB4
  generalize ((w3.alloc (.cells #[.int .u64 0, .int .u64 bl] 54)).alloc (.cells #[.int .u64 yh, .int .u64 yl] 54)) = W3 at *
  generalize w3.heap.size = bd at *
  have y4 : ∀ O, (W3.alloc O).cell? ⟨w.heap.size + 1 + 1, 0, none⟩ = some (.int .i64 0) := fun O => kc _ _ (single _ _) x4
  have y5 : ∀ O, (W3.alloc O).cell? ⟨w.heap.size + 1 + 1, 1, none⟩ = some (.int .i64 0) := fun O => kc _ _ (single _ _) x5
  have yn0 : ∀ O, (W3.alloc O).cell? ⟨bn, 0, none⟩ = some (.int .u64 0) := fun O => kc _ _ (single _ _) xn0
  have yn1 : ∀ O, (W3.alloc O).cell? ⟨bn, 1, none⟩ = some (.int .u64 al) := fun O => kc _ _ (single _ _) xn1
  have yf0 : ∀ O, (W3.alloc O).frozen? ⟨w.heap.size + 1 + 1, 0, none⟩ = false := fun O => kf _ _ (single _ _) x4 xf0
  have yf1 : ∀ O, (W3.alloc O).frozen? ⟨w.heap.size + 1 + 1, 1, none⟩ = false := fun O => kf _ _ (single _ _) x5 xf1
  have l3 : w.heap.size + 1 + 1 < W3.heap.size := World.block_lt_of_cell? _ _ x4
  have l4 : bn < W3.heap.size := World.block_lt_of_cell? _ _ xn0
  have m1 : ¬ W3.heap.size = w.heap.size + 1 + 1 := by omega
  have m2 : ¬ w.heap.size + 1 + 1 = W3.heap.size := by omega
  have m3 : ¬ W3.heap.size = bn := by omega
  have m4 : ¬ bn = W3.heap.size := by omega
  have HB6 := hideR (show ∀ O, Below w.heap.size w (W3.alloc O) from fun O => beyond hB5 (single _ _))
  have HB5 := hideR hB5
  clear l1 l3 l4 hB5
  go_wp2_with fail
  refine bodyPost_ret (v := trip (nn, bl, 0)) (by simp [results, Tryd.results38, go_sem, *]) rfl ⟨rfl, ?_⟩
  first | exact set2 HB5.out (by omega) _ _ | exact set2 (HB6.out _) (by omega) _ _ | exact HB5.out | (refine set2 (Below.setCell (HB6.out _) ?_ _) (by omega) _ _; have := (HB6.out default).size; simp at this; omega) | trace_state
set_option maxRecDepth 100000 in
set_option maxHeartbeats 8000000 in
theorem xheld_l_true_f1 (ph pl qh ql gh gl ah al bh bl xh xl yh yl : Int) (w : World) (hq : ¬ ql = 0) (hc : ¬ ah = 0)
    (HC : Hid (∀ w, Calls Tryd.prog 42 #[.agg #[.int .u64 ph, .int .u64 pl], .agg #[.int .u64 qh, .int .u64 ql]] w fun e w' => e = .returned (.agg #[.int .u64 gh, .int .u64 gl]) ∧ Below w.heap.size w w'))
    (HD1 : Hid (∀ w, Calls Tryd.prog 65 #[.agg #[.int .u64 ph, .int .u64 pl], .agg #[.int .u64 gh, .int .u64 gl]] w fun e w' => e = .returned (.tuple #[.agg #[.int .u64 ah, .int .u64 al], .agg #[.int .u64 xh, .int .u64 xl]]) ∧ Below w.heap.size w w'))
    (HD2 : Hid (∀ w, Calls Tryd.prog 65 #[.agg #[.int .u64 qh, .int .u64 ql], .agg #[.int .u64 gh, .int .u64 gl]] w fun e w' => e = .returned (.tuple #[.agg #[.int .u64 bh, .int .u64 bl], .agg #[.int .u64 yh, .int .u64 yl]]) ∧ Below w.heap.size w w')) :
    Calls Tryd.prog 38 #[.bool true, .agg #[.int .u64 ph, .int .u64 pl], .agg #[.int .u64 qh, .int .u64 ql]] w fun e w' => e = .returned (trip (0, 0, 20)) ∧ Below w.heap.size w w' := by
  have n1 : ¬ w.heap.size = w.heap.size + 1 + 1 := by omega
  have n2 : ¬ w.heap.size + 1 + 1 = w.heap.size := by omega
  go_enter Tryd.func38, Tryd.ntmps38
  go_wp2_with fail
  refine (HC.out _).mono ?_
  rintro e w1 ⟨rfl, hb⟩
  have s0 := kc ⟨w.heap.size, 0, none⟩ (.int .u64 ph) hb (by first | assumption | simp [go_sem, *])
  have s1 := kc ⟨w.heap.size, 1, none⟩ (.int .u64 pl) hb (by first | assumption | simp [go_sem, *])
  have s2 := kc ⟨w.heap.size + 1, 0, none⟩ (.int .u64 qh) hb (by first | assumption | simp [go_sem, *])
  have s3 := kc ⟨w.heap.size + 1, 1, none⟩ (.int .u64 ql) hb (by first | assumption | simp [go_sem, *])
  have s4 := kc ⟨w.heap.size + 1 + 1, 0, none⟩ (.int .i64 0) hb (by first | assumption | simp [go_sem, *])
  have s5 := kc ⟨w.heap.size + 1 + 1, 1, none⟩ (.int .i64 0) hb (by first | assumption | simp [go_sem, *])
  have sf0 := kf ⟨w.heap.size + 1 + 1, 0, none⟩ (.int .i64 0) hb (by first | assumption | simp [go_sem, *]) (by first | assumption | simp [go_sem, *])
  have sf1 := kf ⟨w.heap.size + 1 + 1, 1, none⟩ (.int .i64 0) hb (by first | assumption | simp [go_sem, *]) (by first | assumption | simp [go_sem, *])
  have hB1 : Below w.heap.size w w1 := beyond (three w _ _ _) hb
  clear hb
  have l1 : w.heap.size + 1 + 1 < w1.heap.size := World.block_lt_of_cell? _ _ s4
  go_upto_region 4 with (fail)
  have t0 : (w1.alloc (.cells #[.int .u64 gh, .int .u64 gl] 54)).cell? ⟨w.heap.size, 0, none⟩ = some (.int .u64 ph) := kc _ _ (single _ _) s0
  have t1 : (w1.alloc (.cells #[.int .u64 gh, .int .u64 gl] 54)).cell? ⟨w.heap.size, 1, none⟩ = some (.int .u64 pl) := kc _ _ (single _ _) s1
  have t2 : (w1.alloc (.cells #[.int .u64 gh, .int .u64 gl] 54)).cell? ⟨w.heap.size + 1, 0, none⟩ = some (.int .u64 qh) := kc _ _ (single _ _) s2
  have t3 : (w1.alloc (.cells #[.int .u64 gh, .int .u64 gl] 54)).cell? ⟨w.heap.size + 1, 1, none⟩ = some (.int .u64 ql) := kc _ _ (single _ _) s3
  have t4 : (w1.alloc (.cells #[.int .u64 gh, .int .u64 gl] 54)).cell? ⟨w.heap.size + 1 + 1, 0, none⟩ = some (.int .i64 0) := kc _ _ (single _ _) s4
  have t5 : (w1.alloc (.cells #[.int .u64 gh, .int .u64 gl] 54)).cell? ⟨w.heap.size + 1 + 1, 1, none⟩ = some (.int .i64 0) := kc _ _ (single _ _) s5
  have tf0 : (w1.alloc (.cells #[.int .u64 gh, .int .u64 gl] 54)).frozen? ⟨w.heap.size + 1 + 1, 0, none⟩ = false := kf _ _ (single _ _) s4 sf0
  have tf1 : (w1.alloc (.cells #[.int .u64 gh, .int .u64 gl] 54)).frozen? ⟨w.heap.size + 1 + 1, 1, none⟩ = false := kf _ _ (single _ _) s5 sf1
  have tg0 : (w1.alloc (.cells #[.int .u64 gh, .int .u64 gl] 54)).cell? ⟨w1.heap.size, 0, none⟩ = some (.int .u64 gh) := new_cell w1 _ _ 0
  have tg1 : (w1.alloc (.cells #[.int .u64 gh, .int .u64 gl] 54)).cell? ⟨w1.heap.size, 1, none⟩ = some (.int .u64 gl) := new_cell w1 _ _ 1
  have hBG : Below w.heap.size w (w1.alloc (.cells #[.int .u64 gh, .int .u64 gl] 54)) := beyond hB1 (single _ _)
  clear s0 s1 s2 s3 s4 s5 sf0 sf1 hB1 HC
  generalize (w1.alloc (.cells #[.int .u64 gh, .int .u64 gl] 54)) = W1 at *
  generalize w1.heap.size = bg at *
  go_wp2_with fail
  refine (HD1.out _).mono ?_
  rintro e w2 ⟨rfl, hb⟩
  have u0 := kc _ _ hb t0
  have u1 := kc _ _ hb t1
  have u2 := kc _ _ hb t2
  have u3 := kc _ _ hb t3
  have u4 := kc _ _ hb t4
  have u5 := kc _ _ hb t5
  have uf0 := kf _ _ hb t4 tf0
  have uf1 := kf _ _ hb t5 tf1
  have ug0 := kc _ _ hb tg0
  have ug1 := kc _ _ hb tg1
  have hB2 : Below w.heap.size w w2 := beyond hBG hb
  clear hb t0 t1 t2 t3 t4 t5 tf0 tf1 tg0 tg1 hBG HD1
  go_upto_region 5 with (fail)
  have v0 : ((w2.alloc (.cells #[.int .u64 ah, .int .u64 al] 54)).alloc (.cells #[.int .u64 xh, .int .u64 xl] 54)).cell? ⟨w.heap.size, 0, none⟩ = some (.int .u64 ph) := kc _ _ (two _ _ _) u0
  have v1 : ((w2.alloc (.cells #[.int .u64 ah, .int .u64 al] 54)).alloc (.cells #[.int .u64 xh, .int .u64 xl] 54)).cell? ⟨w.heap.size, 1, none⟩ = some (.int .u64 pl) := kc _ _ (two _ _ _) u1
  have v2 : ((w2.alloc (.cells #[.int .u64 ah, .int .u64 al] 54)).alloc (.cells #[.int .u64 xh, .int .u64 xl] 54)).cell? ⟨w.heap.size + 1, 0, none⟩ = some (.int .u64 qh) := kc _ _ (two _ _ _) u2
  have v3 : ((w2.alloc (.cells #[.int .u64 ah, .int .u64 al] 54)).alloc (.cells #[.int .u64 xh, .int .u64 xl] 54)).cell? ⟨w.heap.size + 1, 1, none⟩ = some (.int .u64 ql) := kc _ _ (two _ _ _) u3
  have v4 : ((w2.alloc (.cells #[.int .u64 ah, .int .u64 al] 54)).alloc (.cells #[.int .u64 xh, .int .u64 xl] 54)).cell? ⟨w.heap.size + 1 + 1, 0, none⟩ = some (.int .i64 0) := kc _ _ (two _ _ _) u4
  have v5 : ((w2.alloc (.cells #[.int .u64 ah, .int .u64 al] 54)).alloc (.cells #[.int .u64 xh, .int .u64 xl] 54)).cell? ⟨w.heap.size + 1 + 1, 1, none⟩ = some (.int .i64 0) := kc _ _ (two _ _ _) u5
  have vf0 : ((w2.alloc (.cells #[.int .u64 ah, .int .u64 al] 54)).alloc (.cells #[.int .u64 xh, .int .u64 xl] 54)).frozen? ⟨w.heap.size + 1 + 1, 0, none⟩ = false := kf _ _ (two _ _ _) u4 uf0
  have vf1 : ((w2.alloc (.cells #[.int .u64 ah, .int .u64 al] 54)).alloc (.cells #[.int .u64 xh, .int .u64 xl] 54)).frozen? ⟨w.heap.size + 1 + 1, 1, none⟩ = false := kf _ _ (two _ _ _) u5 uf1
  have vg0 : ((w2.alloc (.cells #[.int .u64 ah, .int .u64 al] 54)).alloc (.cells #[.int .u64 xh, .int .u64 xl] 54)).cell? ⟨bg, 0, none⟩ = some (.int .u64 gh) := kc _ _ (two _ _ _) ug0
  have vg1 : ((w2.alloc (.cells #[.int .u64 ah, .int .u64 al] 54)).alloc (.cells #[.int .u64 xh, .int .u64 xl] 54)).cell? ⟨bg, 1, none⟩ = some (.int .u64 gl) := kc _ _ (two _ _ _) ug1
  have vn0 : ((w2.alloc (.cells #[.int .u64 ah, .int .u64 al] 54)).alloc (.cells #[.int .u64 xh, .int .u64 xl] 54)).cell? ⟨w2.heap.size, 0, none⟩ = some (.int .u64 ah) := newC3 w2 _ _ _ 0
  have vn1 : ((w2.alloc (.cells #[.int .u64 ah, .int .u64 al] 54)).alloc (.cells #[.int .u64 xh, .int .u64 xl] 54)).cell? ⟨w2.heap.size, 1, none⟩ = some (.int .u64 al) := newC3 w2 _ _ _ 1
  have hB3 : Below w.heap.size w ((w2.alloc (.cells #[.int .u64 ah, .int .u64 al] 54)).alloc (.cells #[.int .u64 xh, .int .u64 xl] 54)) := beyond hB2 (two _ _ _)
  clear u0 u1 u2 u3 u4 u5 uf0 uf1 ug0 ug1 hB2
  generalize ((w2.alloc (.cells #[.int .u64 ah, .int .u64 al] 54)).alloc (.cells #[.int .u64 xh, .int .u64 xl] 54)) = W2 at *
  generalize w2.heap.size = bn at *
  go_wp2_with fail
  refine (HD2.out _).mono ?_
  rintro e w3 ⟨rfl, hb⟩
  have u4 := kc _ _ hb v4
  have u5 := kc _ _ hb v5
  have uf0 := kf _ _ hb v4 vf0
  have uf1 := kf _ _ hb v5 vf1
  have un0 := kc _ _ hb vn0
  have un1 := kc _ _ hb vn1
  have hB4 : Below w.heap.size w w3 := beyond hB3 hb
  clear hb v0 v1 v2 v3 v4 v5 vf0 vf1 vg0 vg1 vn0 vn1 hB3 HD2 hq
  go_upto_region 6 with (fail)
  have x4 : ((w3.alloc (.cells #[.int .u64 bh, .int .u64 bl] 54)).alloc (.cells #[.int .u64 yh, .int .u64 yl] 54)).cell? ⟨w.heap.size + 1 + 1, 0, none⟩ = some (.int .i64 0) := kc _ _ (two _ _ _) u4
  have x5 : ((w3.alloc (.cells #[.int .u64 bh, .int .u64 bl] 54)).alloc (.cells #[.int .u64 yh, .int .u64 yl] 54)).cell? ⟨w.heap.size + 1 + 1, 1, none⟩ = some (.int .i64 0) := kc _ _ (two _ _ _) u5
  have xf0 : ((w3.alloc (.cells #[.int .u64 bh, .int .u64 bl] 54)).alloc (.cells #[.int .u64 yh, .int .u64 yl] 54)).frozen? ⟨w.heap.size + 1 + 1, 0, none⟩ = false := kf _ _ (two _ _ _) u4 uf0
  have xf1 : ((w3.alloc (.cells #[.int .u64 bh, .int .u64 bl] 54)).alloc (.cells #[.int .u64 yh, .int .u64 yl] 54)).frozen? ⟨w.heap.size + 1 + 1, 1, none⟩ = false := kf _ _ (two _ _ _) u5 uf1
  have xn0 : ((w3.alloc (.cells #[.int .u64 bh, .int .u64 bl] 54)).alloc (.cells #[.int .u64 yh, .int .u64 yl] 54)).cell? ⟨bn, 0, none⟩ = some (.int .u64 ah) := kc _ _ (two _ _ _) un0
  have xn1 : ((w3.alloc (.cells #[.int .u64 bh, .int .u64 bl] 54)).alloc (.cells #[.int .u64 yh, .int .u64 yl] 54)).cell? ⟨bn, 1, none⟩ = some (.int .u64 al) := kc _ _ (two _ _ _) un1
  have xd0 : ((w3.alloc (.cells #[.int .u64 bh, .int .u64 bl] 54)).alloc (.cells #[.int .u64 yh, .int .u64 yl] 54)).cell? ⟨w3.heap.size, 0, none⟩ = some (.int .u64 bh) := newC3 w3 _ _ _ 0
  have xd1 : ((w3.alloc (.cells #[.int .u64 bh, .int .u64 bl] 54)).alloc (.cells #[.int .u64 yh, .int .u64 yl] 54)).cell? ⟨w3.heap.size, 1, none⟩ = some (.int .u64 bl) := newC3 w3 _ _ _ 1
  have hB5 : Below w.heap.size w ((w3.alloc (.cells #[.int .u64 bh, .int .u64 bl] 54)).alloc (.cells #[.int .u64 yh, .int .u64 yl] 54)) := beyond hB4 (two _ _ _)
  clear u4 u5 uf0 uf1 un0 un1 hB4
  generalize ((w3.alloc (.cells #[.int .u64 bh, .int .u64 bl] 54)).alloc (.cells #[.int .u64 yh, .int .u64 yl] 54)) = W3 at *
  generalize w3.heap.size = bd at *
  have y4 : ∀ O, (W3.alloc O).cell? ⟨w.heap.size + 1 + 1, 0, none⟩ = some (.int .i64 0) := fun O => kc _ _ (single _ _) x4
  have y5 : ∀ O, (W3.alloc O).cell? ⟨w.heap.size + 1 + 1, 1, none⟩ = some (.int .i64 0) := fun O => kc _ _ (single _ _) x5
  have yn0 : ∀ O, (W3.alloc O).cell? ⟨bn, 0, none⟩ = some (.int .u64 ah) := fun O => kc _ _ (single _ _) xn0
  have yn1 : ∀ O, (W3.alloc O).cell? ⟨bn, 1, none⟩ = some (.int .u64 al) := fun O => kc _ _ (single _ _) xn1
  have yf0 : ∀ O, (W3.alloc O).frozen? ⟨w.heap.size + 1 + 1, 0, none⟩ = false := fun O => kf _ _ (single _ _) x4 xf0
  have yf1 : ∀ O, (W3.alloc O).frozen? ⟨w.heap.size + 1 + 1, 1, none⟩ = false := fun O => kf _ _ (single _ _) x5 xf1
  have l3 : w.heap.size + 1 + 1 < W3.heap.size := World.block_lt_of_cell? _ _ x4
  have l4 : bn < W3.heap.size := World.block_lt_of_cell? _ _ xn0
  have m1 : ¬ W3.heap.size = w.heap.size + 1 + 1 := by omega
  have m2 : ¬ w.heap.size + 1 + 1 = W3.heap.size := by omega
  have m3 : ¬ W3.heap.size = bn := by omega
  have m4 : ¬ bn = W3.heap.size := by omega
  have HB6 := hideR (show ∀ O, Below w.heap.size w (W3.alloc O) from fun O => beyond hB5 (single _ _))
  have HB5 := hideR hB5
  clear l1 l3 l4 hB5
  go_wp2_with fail
  refine bodyPost_ret (v := trip (0, 0, 20)) (by simp [results, Tryd.results38, go_sem, *]) rfl ⟨rfl, ?_⟩
  first | exact set2 HB5.out (by omega) _ _ | exact set2 (HB6.out _) (by omega) _ _ | exact HB5.out | (refine set2 (Below.setCell (HB6.out _) ?_ _) (by omega) _ _; have := (HB6.out default).size; simp at this; omega) | trace_state
set_option maxRecDepth 100000 in
set_option maxHeartbeats 8000000 in
theorem xheld_l_true_f2 (ph pl qh ql gh gl al bh bl xh xl yh yl : Int) (w : World) (hq : ¬ ql = 0) (hc : 9223372036854775808 < al)
    (HC : Hid (∀ w, Calls Tryd.prog 42 #[.agg #[.int .u64 ph, .int .u64 pl], .agg #[.int .u64 qh, .int .u64 ql]] w fun e w' => e = .returned (.agg #[.int .u64 gh, .int .u64 gl]) ∧ Below w.heap.size w w'))
    (HD1 : Hid (∀ w, Calls Tryd.prog 65 #[.agg #[.int .u64 ph, .int .u64 pl], .agg #[.int .u64 gh, .int .u64 gl]] w fun e w' => e = .returned (.tuple #[.agg #[.int .u64 0, .int .u64 al], .agg #[.int .u64 xh, .int .u64 xl]]) ∧ Below w.heap.size w w'))
    (HD2 : Hid (∀ w, Calls Tryd.prog 65 #[.agg #[.int .u64 qh, .int .u64 ql], .agg #[.int .u64 gh, .int .u64 gl]] w fun e w' => e = .returned (.tuple #[.agg #[.int .u64 bh, .int .u64 bl], .agg #[.int .u64 yh, .int .u64 yl]]) ∧ Below w.heap.size w w')) :
    Calls Tryd.prog 38 #[.bool true, .agg #[.int .u64 ph, .int .u64 pl], .agg #[.int .u64 qh, .int .u64 ql]] w fun e w' => e = .returned (trip (0, 0, 20)) ∧ Below w.heap.size w w' := by
  have n1 : ¬ w.heap.size = w.heap.size + 1 + 1 := by omega
  have n2 : ¬ w.heap.size + 1 + 1 = w.heap.size := by omega
  go_enter Tryd.func38, Tryd.ntmps38
  go_wp2_with fail
  refine (HC.out _).mono ?_
  rintro e w1 ⟨rfl, hb⟩
  have s0 := kc ⟨w.heap.size, 0, none⟩ (.int .u64 ph) hb (by first | assumption | simp [go_sem, *])
  have s1 := kc ⟨w.heap.size, 1, none⟩ (.int .u64 pl) hb (by first | assumption | simp [go_sem, *])
  have s2 := kc ⟨w.heap.size + 1, 0, none⟩ (.int .u64 qh) hb (by first | assumption | simp [go_sem, *])
  have s3 := kc ⟨w.heap.size + 1, 1, none⟩ (.int .u64 ql) hb (by first | assumption | simp [go_sem, *])
  have s4 := kc ⟨w.heap.size + 1 + 1, 0, none⟩ (.int .i64 0) hb (by first | assumption | simp [go_sem, *])
  have s5 := kc ⟨w.heap.size + 1 + 1, 1, none⟩ (.int .i64 0) hb (by first | assumption | simp [go_sem, *])
  have sf0 := kf ⟨w.heap.size + 1 + 1, 0, none⟩ (.int .i64 0) hb (by first | assumption | simp [go_sem, *]) (by first | assumption | simp [go_sem, *])
  have sf1 := kf ⟨w.heap.size + 1 + 1, 1, none⟩ (.int .i64 0) hb (by first | assumption | simp [go_sem, *]) (by first | assumption | simp [go_sem, *])
  have hB1 : Below w.heap.size w w1 := beyond (three w _ _ _) hb
  clear hb
  have l1 : w.heap.size + 1 + 1 < w1.heap.size := World.block_lt_of_cell? _ _ s4
  go_upto_region 4 with (fail)
  have t0 : (w1.alloc (.cells #[.int .u64 gh, .int .u64 gl] 54)).cell? ⟨w.heap.size, 0, none⟩ = some (.int .u64 ph) := kc _ _ (single _ _) s0
  have t1 : (w1.alloc (.cells #[.int .u64 gh, .int .u64 gl] 54)).cell? ⟨w.heap.size, 1, none⟩ = some (.int .u64 pl) := kc _ _ (single _ _) s1
  have t2 : (w1.alloc (.cells #[.int .u64 gh, .int .u64 gl] 54)).cell? ⟨w.heap.size + 1, 0, none⟩ = some (.int .u64 qh) := kc _ _ (single _ _) s2
  have t3 : (w1.alloc (.cells #[.int .u64 gh, .int .u64 gl] 54)).cell? ⟨w.heap.size + 1, 1, none⟩ = some (.int .u64 ql) := kc _ _ (single _ _) s3
  have t4 : (w1.alloc (.cells #[.int .u64 gh, .int .u64 gl] 54)).cell? ⟨w.heap.size + 1 + 1, 0, none⟩ = some (.int .i64 0) := kc _ _ (single _ _) s4
  have t5 : (w1.alloc (.cells #[.int .u64 gh, .int .u64 gl] 54)).cell? ⟨w.heap.size + 1 + 1, 1, none⟩ = some (.int .i64 0) := kc _ _ (single _ _) s5
  have tf0 : (w1.alloc (.cells #[.int .u64 gh, .int .u64 gl] 54)).frozen? ⟨w.heap.size + 1 + 1, 0, none⟩ = false := kf _ _ (single _ _) s4 sf0
  have tf1 : (w1.alloc (.cells #[.int .u64 gh, .int .u64 gl] 54)).frozen? ⟨w.heap.size + 1 + 1, 1, none⟩ = false := kf _ _ (single _ _) s5 sf1
  have tg0 : (w1.alloc (.cells #[.int .u64 gh, .int .u64 gl] 54)).cell? ⟨w1.heap.size, 0, none⟩ = some (.int .u64 gh) := new_cell w1 _ _ 0
  have tg1 : (w1.alloc (.cells #[.int .u64 gh, .int .u64 gl] 54)).cell? ⟨w1.heap.size, 1, none⟩ = some (.int .u64 gl) := new_cell w1 _ _ 1
  have hBG : Below w.heap.size w (w1.alloc (.cells #[.int .u64 gh, .int .u64 gl] 54)) := beyond hB1 (single _ _)
  clear s0 s1 s2 s3 s4 s5 sf0 sf1 hB1 HC
  generalize (w1.alloc (.cells #[.int .u64 gh, .int .u64 gl] 54)) = W1 at *
  generalize w1.heap.size = bg at *
  go_wp2_with fail
  refine (HD1.out _).mono ?_
  rintro e w2 ⟨rfl, hb⟩
  have u0 := kc _ _ hb t0
  have u1 := kc _ _ hb t1
  have u2 := kc _ _ hb t2
  have u3 := kc _ _ hb t3
  have u4 := kc _ _ hb t4
  have u5 := kc _ _ hb t5
  have uf0 := kf _ _ hb t4 tf0
  have uf1 := kf _ _ hb t5 tf1
  have ug0 := kc _ _ hb tg0
  have ug1 := kc _ _ hb tg1
  have hB2 : Below w.heap.size w w2 := beyond hBG hb
  clear hb t0 t1 t2 t3 t4 t5 tf0 tf1 tg0 tg1 hBG HD1
  go_upto_region 5 with (fail)
  have v0 : ((w2.alloc (.cells #[.int .u64 0, .int .u64 al] 54)).alloc (.cells #[.int .u64 xh, .int .u64 xl] 54)).cell? ⟨w.heap.size, 0, none⟩ = some (.int .u64 ph) := kc _ _ (two _ _ _) u0
  have v1 : ((w2.alloc (.cells #[.int .u64 0, .int .u64 al] 54)).alloc (.cells #[.int .u64 xh, .int .u64 xl] 54)).cell? ⟨w.heap.size, 1, none⟩ = some (.int .u64 pl) := kc _ _ (two _ _ _) u1
  have v2 : ((w2.alloc (.cells #[.int .u64 0, .int .u64 al] 54)).alloc (.cells #[.int .u64 xh, .int .u64 xl] 54)).cell? ⟨w.heap.size + 1, 0, none⟩ = some (.int .u64 qh) := kc _ _ (two _ _ _) u2
  have v3 : ((w2.alloc (.cells #[.int .u64 0, .int .u64 al] 54)).alloc (.cells #[.int .u64 xh, .int .u64 xl] 54)).cell? ⟨w.heap.size + 1, 1, none⟩ = some (.int .u64 ql) := kc _ _ (two _ _ _) u3
  have v4 : ((w2.alloc (.cells #[.int .u64 0, .int .u64 al] 54)).alloc (.cells #[.int .u64 xh, .int .u64 xl] 54)).cell? ⟨w.heap.size + 1 + 1, 0, none⟩ = some (.int .i64 0) := kc _ _ (two _ _ _) u4
  have v5 : ((w2.alloc (.cells #[.int .u64 0, .int .u64 al] 54)).alloc (.cells #[.int .u64 xh, .int .u64 xl] 54)).cell? ⟨w.heap.size + 1 + 1, 1, none⟩ = some (.int .i64 0) := kc _ _ (two _ _ _) u5
  have vf0 : ((w2.alloc (.cells #[.int .u64 0, .int .u64 al] 54)).alloc (.cells #[.int .u64 xh, .int .u64 xl] 54)).frozen? ⟨w.heap.size + 1 + 1, 0, none⟩ = false := kf _ _ (two _ _ _) u4 uf0
  have vf1 : ((w2.alloc (.cells #[.int .u64 0, .int .u64 al] 54)).alloc (.cells #[.int .u64 xh, .int .u64 xl] 54)).frozen? ⟨w.heap.size + 1 + 1, 1, none⟩ = false := kf _ _ (two _ _ _) u5 uf1
  have vg0 : ((w2.alloc (.cells #[.int .u64 0, .int .u64 al] 54)).alloc (.cells #[.int .u64 xh, .int .u64 xl] 54)).cell? ⟨bg, 0, none⟩ = some (.int .u64 gh) := kc _ _ (two _ _ _) ug0
  have vg1 : ((w2.alloc (.cells #[.int .u64 0, .int .u64 al] 54)).alloc (.cells #[.int .u64 xh, .int .u64 xl] 54)).cell? ⟨bg, 1, none⟩ = some (.int .u64 gl) := kc _ _ (two _ _ _) ug1
  have vn0 : ((w2.alloc (.cells #[.int .u64 0, .int .u64 al] 54)).alloc (.cells #[.int .u64 xh, .int .u64 xl] 54)).cell? ⟨w2.heap.size, 0, none⟩ = some (.int .u64 0) := newC3 w2 _ _ _ 0
  have vn1 : ((w2.alloc (.cells #[.int .u64 0, .int .u64 al] 54)).alloc (.cells #[.int .u64 xh, .int .u64 xl] 54)).cell? ⟨w2.heap.size, 1, none⟩ = some (.int .u64 al) := newC3 w2 _ _ _ 1
  have hB3 : Below w.heap.size w ((w2.alloc (.cells #[.int .u64 0, .int .u64 al] 54)).alloc (.cells #[.int .u64 xh, .int .u64 xl] 54)) := beyond hB2 (two _ _ _)
  clear u0 u1 u2 u3 u4 u5 uf0 uf1 ug0 ug1 hB2
  generalize ((w2.alloc (.cells #[.int .u64 0, .int .u64 al] 54)).alloc (.cells #[.int .u64 xh, .int .u64 xl] 54)) = W2 at *
  generalize w2.heap.size = bn at *
  go_wp2_with fail
  refine (HD2.out _).mono ?_
  rintro e w3 ⟨rfl, hb⟩
  have u4 := kc _ _ hb v4
  have u5 := kc _ _ hb v5
  have uf0 := kf _ _ hb v4 vf0
  have uf1 := kf _ _ hb v5 vf1
  have un0 := kc _ _ hb vn0
  have un1 := kc _ _ hb vn1
  have hB4 : Below w.heap.size w w3 := beyond hB3 hb
  clear hb v0 v1 v2 v3 v4 v5 vf0 vf1 vg0 vg1 vn0 vn1 hB3 HD2 hq
  go_upto_region 6 with (fail)
  have x4 : ((w3.alloc (.cells #[.int .u64 bh, .int .u64 bl] 54)).alloc (.cells #[.int .u64 yh, .int .u64 yl] 54)).cell? ⟨w.heap.size + 1 + 1, 0, none⟩ = some (.int .i64 0) := kc _ _ (two _ _ _) u4
  have x5 : ((w3.alloc (.cells #[.int .u64 bh, .int .u64 bl] 54)).alloc (.cells #[.int .u64 yh, .int .u64 yl] 54)).cell? ⟨w.heap.size + 1 + 1, 1, none⟩ = some (.int .i64 0) := kc _ _ (two _ _ _) u5
  have xf0 : ((w3.alloc (.cells #[.int .u64 bh, .int .u64 bl] 54)).alloc (.cells #[.int .u64 yh, .int .u64 yl] 54)).frozen? ⟨w.heap.size + 1 + 1, 0, none⟩ = false := kf _ _ (two _ _ _) u4 uf0
  have xf1 : ((w3.alloc (.cells #[.int .u64 bh, .int .u64 bl] 54)).alloc (.cells #[.int .u64 yh, .int .u64 yl] 54)).frozen? ⟨w.heap.size + 1 + 1, 1, none⟩ = false := kf _ _ (two _ _ _) u5 uf1
  have xn0 : ((w3.alloc (.cells #[.int .u64 bh, .int .u64 bl] 54)).alloc (.cells #[.int .u64 yh, .int .u64 yl] 54)).cell? ⟨bn, 0, none⟩ = some (.int .u64 0) := kc _ _ (two _ _ _) un0
  have xn1 : ((w3.alloc (.cells #[.int .u64 bh, .int .u64 bl] 54)).alloc (.cells #[.int .u64 yh, .int .u64 yl] 54)).cell? ⟨bn, 1, none⟩ = some (.int .u64 al) := kc _ _ (two _ _ _) un1
  have xd0 : ((w3.alloc (.cells #[.int .u64 bh, .int .u64 bl] 54)).alloc (.cells #[.int .u64 yh, .int .u64 yl] 54)).cell? ⟨w3.heap.size, 0, none⟩ = some (.int .u64 bh) := newC3 w3 _ _ _ 0
  have xd1 : ((w3.alloc (.cells #[.int .u64 bh, .int .u64 bl] 54)).alloc (.cells #[.int .u64 yh, .int .u64 yl] 54)).cell? ⟨w3.heap.size, 1, none⟩ = some (.int .u64 bl) := newC3 w3 _ _ _ 1
  have hB5 : Below w.heap.size w ((w3.alloc (.cells #[.int .u64 bh, .int .u64 bl] 54)).alloc (.cells #[.int .u64 yh, .int .u64 yl] 54)) := beyond hB4 (two _ _ _)
  clear u4 u5 uf0 uf1 un0 un1 hB4
  generalize ((w3.alloc (.cells #[.int .u64 bh, .int .u64 bl] 54)).alloc (.cells #[.int .u64 yh, .int .u64 yl] 54)) = W3 at *
  generalize w3.heap.size = bd at *
  have y4 : ∀ O, (W3.alloc O).cell? ⟨w.heap.size + 1 + 1, 0, none⟩ = some (.int .i64 0) := fun O => kc _ _ (single _ _) x4
  have y5 : ∀ O, (W3.alloc O).cell? ⟨w.heap.size + 1 + 1, 1, none⟩ = some (.int .i64 0) := fun O => kc _ _ (single _ _) x5
  have yn0 : ∀ O, (W3.alloc O).cell? ⟨bn, 0, none⟩ = some (.int .u64 0) := fun O => kc _ _ (single _ _) xn0
  have yn1 : ∀ O, (W3.alloc O).cell? ⟨bn, 1, none⟩ = some (.int .u64 al) := fun O => kc _ _ (single _ _) xn1
  have yf0 : ∀ O, (W3.alloc O).frozen? ⟨w.heap.size + 1 + 1, 0, none⟩ = false := fun O => kf _ _ (single _ _) x4 xf0
  have yf1 : ∀ O, (W3.alloc O).frozen? ⟨w.heap.size + 1 + 1, 1, none⟩ = false := fun O => kf _ _ (single _ _) x5 xf1
  have l3 : w.heap.size + 1 + 1 < W3.heap.size := World.block_lt_of_cell? _ _ x4
  have l4 : bn < W3.heap.size := World.block_lt_of_cell? _ _ xn0
  have m1 : ¬ W3.heap.size = w.heap.size + 1 + 1 := by omega
  have m2 : ¬ w.heap.size + 1 + 1 = W3.heap.size := by omega
  have m3 : ¬ W3.heap.size = bn := by omega
  have m4 : ¬ bn = W3.heap.size := by omega
  have HB6 := hideR (show ∀ O, Below w.heap.size w (W3.alloc O) from fun O => beyond hB5 (single _ _))
  have HB5 := hideR hB5
  clear l1 l3 l4 hB5
  go_wp2_with fail
  refine bodyPost_ret (v := trip (0, 0, 20)) (by simp [results, Tryd.results38, go_sem, *]) rfl ⟨rfl, ?_⟩
  first | exact set2 HB5.out (by omega) _ _ | exact set2 (HB6.out _) (by omega) _ _ | exact HB5.out | (refine set2 (Below.setCell (HB6.out _) ?_ _) (by omega) _ _; have := (HB6.out default).size; simp at this; omega) | trace_state
set_option maxRecDepth 100000 in
set_option maxHeartbeats 8000000 in
theorem xheld_l_true_f3 (ph pl qh ql gh gl al bh bl xh xl yh yl : Int) (w : World) (hq : ¬ ql = 0) (e2 : ¬ 9223372036854775808 < al) (hc : ¬ bh = 0)
    (HC : Hid (∀ w, Calls Tryd.prog 42 #[.agg #[.int .u64 ph, .int .u64 pl], .agg #[.int .u64 qh, .int .u64 ql]] w fun e w' => e = .returned (.agg #[.int .u64 gh, .int .u64 gl]) ∧ Below w.heap.size w w'))
    (HD1 : Hid (∀ w, Calls Tryd.prog 65 #[.agg #[.int .u64 ph, .int .u64 pl], .agg #[.int .u64 gh, .int .u64 gl]] w fun e w' => e = .returned (.tuple #[.agg #[.int .u64 0, .int .u64 al], .agg #[.int .u64 xh, .int .u64 xl]]) ∧ Below w.heap.size w w'))
    (HD2 : Hid (∀ w, Calls Tryd.prog 65 #[.agg #[.int .u64 qh, .int .u64 ql], .agg #[.int .u64 gh, .int .u64 gl]] w fun e w' => e = .returned (.tuple #[.agg #[.int .u64 bh, .int .u64 bl], .agg #[.int .u64 yh, .int .u64 yl]]) ∧ Below w.heap.size w w')) :
    Calls Tryd.prog 38 #[.bool true, .agg #[.int .u64 ph, .int .u64 pl], .agg #[.int .u64 qh, .int .u64 ql]] w fun e w' => e = .returned (trip (0, 0, 20)) ∧ Below w.heap.size w w' := by
  have n1 : ¬ w.heap.size = w.heap.size + 1 + 1 := by omega
  have n2 : ¬ w.heap.size + 1 + 1 = w.heap.size := by omega
  go_enter Tryd.func38, Tryd.ntmps38
  go_wp2_with fail
  refine (HC.out _).mono ?_
  rintro e w1 ⟨rfl, hb⟩
  have s0 := kc ⟨w.heap.size, 0, none⟩ (.int .u64 ph) hb (by first | assumption | simp [go_sem, *])
  have s1 := kc ⟨w.heap.size, 1, none⟩ (.int .u64 pl) hb (by first | assumption | simp [go_sem, *])
  have s2 := kc ⟨w.heap.size + 1, 0, none⟩ (.int .u64 qh) hb (by first | assumption | simp [go_sem, *])
  have s3 := kc ⟨w.heap.size + 1, 1, none⟩ (.int .u64 ql) hb (by first | assumption | simp [go_sem, *])
  have s4 := kc ⟨w.heap.size + 1 + 1, 0, none⟩ (.int .i64 0) hb (by first | assumption | simp [go_sem, *])
  have s5 := kc ⟨w.heap.size + 1 + 1, 1, none⟩ (.int .i64 0) hb (by first | assumption | simp [go_sem, *])
  have sf0 := kf ⟨w.heap.size + 1 + 1, 0, none⟩ (.int .i64 0) hb (by first | assumption | simp [go_sem, *]) (by first | assumption | simp [go_sem, *])
  have sf1 := kf ⟨w.heap.size + 1 + 1, 1, none⟩ (.int .i64 0) hb (by first | assumption | simp [go_sem, *]) (by first | assumption | simp [go_sem, *])
  have hB1 : Below w.heap.size w w1 := beyond (three w _ _ _) hb
  clear hb
  have l1 : w.heap.size + 1 + 1 < w1.heap.size := World.block_lt_of_cell? _ _ s4
  go_upto_region 4 with (fail)
  have t0 : (w1.alloc (.cells #[.int .u64 gh, .int .u64 gl] 54)).cell? ⟨w.heap.size, 0, none⟩ = some (.int .u64 ph) := kc _ _ (single _ _) s0
  have t1 : (w1.alloc (.cells #[.int .u64 gh, .int .u64 gl] 54)).cell? ⟨w.heap.size, 1, none⟩ = some (.int .u64 pl) := kc _ _ (single _ _) s1
  have t2 : (w1.alloc (.cells #[.int .u64 gh, .int .u64 gl] 54)).cell? ⟨w.heap.size + 1, 0, none⟩ = some (.int .u64 qh) := kc _ _ (single _ _) s2
  have t3 : (w1.alloc (.cells #[.int .u64 gh, .int .u64 gl] 54)).cell? ⟨w.heap.size + 1, 1, none⟩ = some (.int .u64 ql) := kc _ _ (single _ _) s3
  have t4 : (w1.alloc (.cells #[.int .u64 gh, .int .u64 gl] 54)).cell? ⟨w.heap.size + 1 + 1, 0, none⟩ = some (.int .i64 0) := kc _ _ (single _ _) s4
  have t5 : (w1.alloc (.cells #[.int .u64 gh, .int .u64 gl] 54)).cell? ⟨w.heap.size + 1 + 1, 1, none⟩ = some (.int .i64 0) := kc _ _ (single _ _) s5
  have tf0 : (w1.alloc (.cells #[.int .u64 gh, .int .u64 gl] 54)).frozen? ⟨w.heap.size + 1 + 1, 0, none⟩ = false := kf _ _ (single _ _) s4 sf0
  have tf1 : (w1.alloc (.cells #[.int .u64 gh, .int .u64 gl] 54)).frozen? ⟨w.heap.size + 1 + 1, 1, none⟩ = false := kf _ _ (single _ _) s5 sf1
  have tg0 : (w1.alloc (.cells #[.int .u64 gh, .int .u64 gl] 54)).cell? ⟨w1.heap.size, 0, none⟩ = some (.int .u64 gh) := new_cell w1 _ _ 0
  have tg1 : (w1.alloc (.cells #[.int .u64 gh, .int .u64 gl] 54)).cell? ⟨w1.heap.size, 1, none⟩ = some (.int .u64 gl) := new_cell w1 _ _ 1
  have hBG : Below w.heap.size w (w1.alloc (.cells #[.int .u64 gh, .int .u64 gl] 54)) := beyond hB1 (single _ _)
  clear s0 s1 s2 s3 s4 s5 sf0 sf1 hB1 HC
  generalize (w1.alloc (.cells #[.int .u64 gh, .int .u64 gl] 54)) = W1 at *
  generalize w1.heap.size = bg at *
  go_wp2_with fail
  refine (HD1.out _).mono ?_
  rintro e w2 ⟨rfl, hb⟩
  have u0 := kc _ _ hb t0
  have u1 := kc _ _ hb t1
  have u2 := kc _ _ hb t2
  have u3 := kc _ _ hb t3
  have u4 := kc _ _ hb t4
  have u5 := kc _ _ hb t5
  have uf0 := kf _ _ hb t4 tf0
  have uf1 := kf _ _ hb t5 tf1
  have ug0 := kc _ _ hb tg0
  have ug1 := kc _ _ hb tg1
  have hB2 : Below w.heap.size w w2 := beyond hBG hb
  clear hb t0 t1 t2 t3 t4 t5 tf0 tf1 tg0 tg1 hBG HD1
  go_upto_region 5 with (fail)
  have v0 : ((w2.alloc (.cells #[.int .u64 0, .int .u64 al] 54)).alloc (.cells #[.int .u64 xh, .int .u64 xl] 54)).cell? ⟨w.heap.size, 0, none⟩ = some (.int .u64 ph) := kc _ _ (two _ _ _) u0
  have v1 : ((w2.alloc (.cells #[.int .u64 0, .int .u64 al] 54)).alloc (.cells #[.int .u64 xh, .int .u64 xl] 54)).cell? ⟨w.heap.size, 1, none⟩ = some (.int .u64 pl) := kc _ _ (two _ _ _) u1
  have v2 : ((w2.alloc (.cells #[.int .u64 0, .int .u64 al] 54)).alloc (.cells #[.int .u64 xh, .int .u64 xl] 54)).cell? ⟨w.heap.size + 1, 0, none⟩ = some (.int .u64 qh) := kc _ _ (two _ _ _) u2
  have v3 : ((w2.alloc (.cells #[.int .u64 0, .int .u64 al] 54)).alloc (.cells #[.int .u64 xh, .int .u64 xl] 54)).cell? ⟨w.heap.size + 1, 1, none⟩ = some (.int .u64 ql) := kc _ _ (two _ _ _) u3
  have v4 : ((w2.alloc (.cells #[.int .u64 0, .int .u64 al] 54)).alloc (.cells #[.int .u64 xh, .int .u64 xl] 54)).cell? ⟨w.heap.size + 1 + 1, 0, none⟩ = some (.int .i64 0) := kc _ _ (two _ _ _) u4
  have v5 : ((w2.alloc (.cells #[.int .u64 0, .int .u64 al] 54)).alloc (.cells #[.int .u64 xh, .int .u64 xl] 54)).cell? ⟨w.heap.size + 1 + 1, 1, none⟩ = some (.int .i64 0) := kc _ _ (two _ _ _) u5
  have vf0 : ((w2.alloc (.cells #[.int .u64 0, .int .u64 al] 54)).alloc (.cells #[.int .u64 xh, .int .u64 xl] 54)).frozen? ⟨w.heap.size + 1 + 1, 0, none⟩ = false := kf _ _ (two _ _ _) u4 uf0
  have vf1 : ((w2.alloc (.cells #[.int .u64 0, .int .u64 al] 54)).alloc (.cells #[.int .u64 xh, .int .u64 xl] 54)).frozen? ⟨w.heap.size + 1 + 1, 1, none⟩ = false := kf _ _ (two _ _ _) u5 uf1
  have vg0 : ((w2.alloc (.cells #[.int .u64 0, .int .u64 al] 54)).alloc (.cells #[.int .u64 xh, .int .u64 xl] 54)).cell? ⟨bg, 0, none⟩ = some (.int .u64 gh) := kc _ _ (two _ _ _) ug0
  have vg1 : ((w2.alloc (.cells #[.int .u64 0, .int .u64 al] 54)).alloc (.cells #[.int .u64 xh, .int .u64 xl] 54)).cell? ⟨bg, 1, none⟩ = some (.int .u64 gl) := kc _ _ (two _ _ _) ug1
  have vn0 : ((w2.alloc (.cells #[.int .u64 0, .int .u64 al] 54)).alloc (.cells #[.int .u64 xh, .int .u64 xl] 54)).cell? ⟨w2.heap.size, 0, none⟩ = some (.int .u64 0) := newC3 w2 _ _ _ 0
  have vn1 : ((w2.alloc (.cells #[.int .u64 0, .int .u64 al] 54)).alloc (.cells #[.int .u64 xh, .int .u64 xl] 54)).cell? ⟨w2.heap.size, 1, none⟩ = some (.int .u64 al) := newC3 w2 _ _ _ 1
  have hB3 : Below w.heap.size w ((w2.alloc (.cells #[.int .u64 0, .int .u64 al] 54)).alloc (.cells #[.int .u64 xh, .int .u64 xl] 54)) := beyond hB2 (two _ _ _)
  clear u0 u1 u2 u3 u4 u5 uf0 uf1 ug0 ug1 hB2
  generalize ((w2.alloc (.cells #[.int .u64 0, .int .u64 al] 54)).alloc (.cells #[.int .u64 xh, .int .u64 xl] 54)) = W2 at *
  generalize w2.heap.size = bn at *
  go_wp2_with fail
  refine (HD2.out _).mono ?_
  rintro e w3 ⟨rfl, hb⟩
  have u4 := kc _ _ hb v4
  have u5 := kc _ _ hb v5
  have uf0 := kf _ _ hb v4 vf0
  have uf1 := kf _ _ hb v5 vf1
  have un0 := kc _ _ hb vn0
  have un1 := kc _ _ hb vn1
  have hB4 : Below w.heap.size w w3 := beyond hB3 hb
  clear hb v0 v1 v2 v3 v4 v5 vf0 vf1 vg0 vg1 vn0 vn1 hB3 HD2 hq
  go_upto_region 6 with (fail)
  have x4 : ((w3.alloc (.cells #[.int .u64 bh, .int .u64 bl] 54)).alloc (.cells #[.int .u64 yh, .int .u64 yl] 54)).cell? ⟨w.heap.size + 1 + 1, 0, none⟩ = some (.int .i64 0) := kc _ _ (two _ _ _) u4
  have x5 : ((w3.alloc (.cells #[.int .u64 bh, .int .u64 bl] 54)).alloc (.cells #[.int .u64 yh, .int .u64 yl] 54)).cell? ⟨w.heap.size + 1 + 1, 1, none⟩ = some (.int .i64 0) := kc _ _ (two _ _ _) u5
  have xf0 : ((w3.alloc (.cells #[.int .u64 bh, .int .u64 bl] 54)).alloc (.cells #[.int .u64 yh, .int .u64 yl] 54)).frozen? ⟨w.heap.size + 1 + 1, 0, none⟩ = false := kf _ _ (two _ _ _) u4 uf0
  have xf1 : ((w3.alloc (.cells #[.int .u64 bh, .int .u64 bl] 54)).alloc (.cells #[.int .u64 yh, .int .u64 yl] 54)).frozen? ⟨w.heap.size + 1 + 1, 1, none⟩ = false := kf _ _ (two _ _ _) u5 uf1
  have xn0 : ((w3.alloc (.cells #[.int .u64 bh, .int .u64 bl] 54)).alloc (.cells #[.int .u64 yh, .int .u64 yl] 54)).cell? ⟨bn, 0, none⟩ = some (.int .u64 0) := kc _ _ (two _ _ _) un0
  have xn1 : ((w3.alloc (.cells #[.int .u64 bh, .int .u64 bl] 54)).alloc (.cells #[.int .u64 yh, .int .u64 yl] 54)).cell? ⟨bn, 1, none⟩ = some (.int .u64 al) := kc _ _ (two _ _ _) un1
  have xd0 : ((w3.alloc (.cells #[.int .u64 bh, .int .u64 bl] 54)).alloc (.cells #[.int .u64 yh, .int .u64 yl] 54)).cell? ⟨w3.heap.size, 0, none⟩ = some (.int .u64 bh) := newC3 w3 _ _ _ 0
  have xd1 : ((w3.alloc (.cells #[.int .u64 bh, .int .u64 bl] 54)).alloc (.cells #[.int .u64 yh, .int .u64 yl] 54)).cell? ⟨w3.heap.size, 1, none⟩ = some (.int .u64 bl) := newC3 w3 _ _ _ 1
  have hB5 : Below w.heap.size w ((w3.alloc (.cells #[.int .u64 bh, .int .u64 bl] 54)).alloc (.cells #[.int .u64 yh, .int .u64 yl] 54)) := beyond hB4 (two _ _ _)
  clear u4 u5 uf0 uf1 un0 un1 hB4
  generalize ((w3.alloc (.cells #[.int .u64 bh, .int .u64 bl] 54)).alloc (.cells #[.int .u64 yh, .int .u64 yl] 54)) = W3 at *
  generalize w3.heap.size = bd at *
  have y4 : ∀ O, (W3.alloc O).cell? ⟨w.heap.size + 1 + 1, 0, none⟩ = some (.int .i64 0) := fun O => kc _ _ (single _ _) x4
  have y5 : ∀ O, (W3.alloc O).cell? ⟨w.heap.size + 1 + 1, 1, none⟩ = some (.int .i64 0) := fun O => kc _ _ (single _ _) x5
  have yn0 : ∀ O, (W3.alloc O).cell? ⟨bn, 0, none⟩ = some (.int .u64 0) := fun O => kc _ _ (single _ _) xn0
  have yn1 : ∀ O, (W3.alloc O).cell? ⟨bn, 1, none⟩ = some (.int .u64 al) := fun O => kc _ _ (single _ _) xn1
  have yf0 : ∀ O, (W3.alloc O).frozen? ⟨w.heap.size + 1 + 1, 0, none⟩ = false := fun O => kf _ _ (single _ _) x4 xf0
  have yf1 : ∀ O, (W3.alloc O).frozen? ⟨w.heap.size + 1 + 1, 1, none⟩ = false := fun O => kf _ _ (single _ _) x5 xf1
  have l3 : w.heap.size + 1 + 1 < W3.heap.size := World.block_lt_of_cell? _ _ x4
  have l4 : bn < W3.heap.size := World.block_lt_of_cell? _ _ xn0
  have m1 : ¬ W3.heap.size = w.heap.size + 1 + 1 := by omega
  have m2 : ¬ w.heap.size + 1 + 1 = W3.heap.size := by omega
  have m3 : ¬ W3.heap.size = bn := by omega
  have m4 : ¬ bn = W3.heap.size := by omega
  have HB6 := hideR (show ∀ O, Below w.heap.size w (W3.alloc O) from fun O => beyond hB5 (single _ _))
  have HB5 := hideR hB5
  clear l1 l3 l4 hB5
  go_wp2_with fail
  refine bodyPost_ret (v := trip (0, 0, 20)) (by simp [results, Tryd.results38, go_sem, *]) rfl ⟨rfl, ?_⟩
  first | exact set2 HB5.out (by omega) _ _ | exact set2 (HB6.out _) (by omega) _ _ | exact HB5.out | (refine set2 (Below.setCell (HB6.out _) ?_ _) (by omega) _ _; have := (HB6.out default).size; simp at this; omega) | trace_state
set_option maxRecDepth 100000 in
set_option maxHeartbeats 8000000 in
theorem xheld_l_true_f4 (ph pl qh ql gh gl al bl xh xl yh yl : Int) (w : World) (hq : ¬ ql = 0) (e2 : ¬ 9223372036854775808 < al) (hc : 9223372036854775807 < bl)
    (HC : Hid (∀ w, Calls Tryd.prog 42 #[.agg #[.int .u64 ph, .int .u64 pl], .agg #[.int .u64 qh, .int .u64 ql]] w fun e w' => e = .returned (.agg #[.int .u64 gh, .int .u64 gl]) ∧ Below w.heap.size w w'))
    (HD1 : Hid (∀ w, Calls Tryd.prog 65 #[.agg #[.int .u64 ph, .int .u64 pl], .agg #[.int .u64 gh, .int .u64 gl]] w fun e w' => e = .returned (.tuple #[.agg #[.int .u64 0, .int .u64 al], .agg #[.int .u64 xh, .int .u64 xl]]) ∧ Below w.heap.size w w'))
    (HD2 : Hid (∀ w, Calls Tryd.prog 65 #[.agg #[.int .u64 qh, .int .u64 ql], .agg #[.int .u64 gh, .int .u64 gl]] w fun e w' => e = .returned (.tuple #[.agg #[.int .u64 0, .int .u64 bl], .agg #[.int .u64 yh, .int .u64 yl]]) ∧ Below w.heap.size w w')) :
    Calls Tryd.prog 38 #[.bool true, .agg #[.int .u64 ph, .int .u64 pl], .agg #[.int .u64 qh, .int .u64 ql]] w fun e w' => e = .returned (trip (0, 0, 20)) ∧ Below w.heap.size w w' := by
  have n1 : ¬ w.heap.size = w.heap.size + 1 + 1 := by omega
  have n2 : ¬ w.heap.size + 1 + 1 = w.heap.size := by omega
  go_enter Tryd.func38, Tryd.ntmps38
  go_wp2_with fail
  refine (HC.out _).mono ?_
  rintro e w1 ⟨rfl, hb⟩
  have s0 := kc ⟨w.heap.size, 0, none⟩ (.int .u64 ph) hb (by first | assumption | simp [go_sem, *])
  have s1 := kc ⟨w.heap.size, 1, none⟩ (.int .u64 pl) hb (by first | assumption | simp [go_sem, *])
  have s2 := kc ⟨w.heap.size + 1, 0, none⟩ (.int .u64 qh) hb (by first | assumption | simp [go_sem, *])
  have s3 := kc ⟨w.heap.size + 1, 1, none⟩ (.int .u64 ql) hb (by first | assumption | simp [go_sem, *])
  have s4 := kc ⟨w.heap.size + 1 + 1, 0, none⟩ (.int .i64 0) hb (by first | assumption | simp [go_sem, *])
  have s5 := kc ⟨w.heap.size + 1 + 1, 1, none⟩ (.int .i64 0) hb (by first | assumption | simp [go_sem, *])
  have sf0 := kf ⟨w.heap.size + 1 + 1, 0, none⟩ (.int .i64 0) hb (by first | assumption | simp [go_sem, *]) (by first | assumption | simp [go_sem, *])
  have sf1 := kf ⟨w.heap.size + 1 + 1, 1, none⟩ (.int .i64 0) hb (by first | assumption | simp [go_sem, *]) (by first | assumption | simp [go_sem, *])
  have hB1 : Below w.heap.size w w1 := beyond (three w _ _ _) hb
  clear hb
  have l1 : w.heap.size + 1 + 1 < w1.heap.size := World.block_lt_of_cell? _ _ s4
  go_upto_region 4 with (fail)
  have t0 : (w1.alloc (.cells #[.int .u64 gh, .int .u64 gl] 54)).cell? ⟨w.heap.size, 0, none⟩ = some (.int .u64 ph) := kc _ _ (single _ _) s0
  have t1 : (w1.alloc (.cells #[.int .u64 gh, .int .u64 gl] 54)).cell? ⟨w.heap.size, 1, none⟩ = some (.int .u64 pl) := kc _ _ (single _ _) s1
  have t2 : (w1.alloc (.cells #[.int .u64 gh, .int .u64 gl] 54)).cell? ⟨w.heap.size + 1, 0, none⟩ = some (.int .u64 qh) := kc _ _ (single _ _) s2
  have t3 : (w1.alloc (.cells #[.int .u64 gh, .int .u64 gl] 54)).cell? ⟨w.heap.size + 1, 1, none⟩ = some (.int .u64 ql) := kc _ _ (single _ _) s3
  have t4 : (w1.alloc (.cells #[.int .u64 gh, .int .u64 gl] 54)).cell? ⟨w.heap.size + 1 + 1, 0, none⟩ = some (.int .i64 0) := kc _ _ (single _ _) s4
  have t5 : (w1.alloc (.cells #[.int .u64 gh, .int .u64 gl] 54)).cell? ⟨w.heap.size + 1 + 1, 1, none⟩ = some (.int .i64 0) := kc _ _ (single _ _) s5
  have tf0 : (w1.alloc (.cells #[.int .u64 gh, .int .u64 gl] 54)).frozen? ⟨w.heap.size + 1 + 1, 0, none⟩ = false := kf _ _ (single _ _) s4 sf0
  have tf1 : (w1.alloc (.cells #[.int .u64 gh, .int .u64 gl] 54)).frozen? ⟨w.heap.size + 1 + 1, 1, none⟩ = false := kf _ _ (single _ _) s5 sf1
  have tg0 : (w1.alloc (.cells #[.int .u64 gh, .int .u64 gl] 54)).cell? ⟨w1.heap.size, 0, none⟩ = some (.int .u64 gh) := new_cell w1 _ _ 0
  have tg1 : (w1.alloc (.cells #[.int .u64 gh, .int .u64 gl] 54)).cell? ⟨w1.heap.size, 1, none⟩ = some (.int .u64 gl) := new_cell w1 _ _ 1
  have hBG : Below w.heap.size w (w1.alloc (.cells #[.int .u64 gh, .int .u64 gl] 54)) := beyond hB1 (single _ _)
  clear s0 s1 s2 s3 s4 s5 sf0 sf1 hB1 HC
  generalize (w1.alloc (.cells #[.int .u64 gh, .int .u64 gl] 54)) = W1 at *
  generalize w1.heap.size = bg at *
  go_wp2_with fail
  refine (HD1.out _).mono ?_
  rintro e w2 ⟨rfl, hb⟩
  have u0 := kc _ _ hb t0
  have u1 := kc _ _ hb t1
  have u2 := kc _ _ hb t2
  have u3 := kc _ _ hb t3
  have u4 := kc _ _ hb t4
  have u5 := kc _ _ hb t5
  have uf0 := kf _ _ hb t4 tf0
  have uf1 := kf _ _ hb t5 tf1
  have ug0 := kc _ _ hb tg0
  have ug1 := kc _ _ hb tg1
  have hB2 : Below w.heap.size w w2 := beyond hBG hb
  clear hb t0 t1 t2 t3 t4 t5 tf0 tf1 tg0 tg1 hBG HD1
  go_upto_region 5 with (fail)
  have v0 : ((w2.alloc (.cells #[.int .u64 0, .int .u64 al] 54)).alloc (.cells #[.int .u64 xh, .int .u64 xl] 54)).cell? ⟨w.heap.size, 0, none⟩ = some (.int .u64 ph) := kc _ _ (two _ _ _) u0
  have v1 : ((w2.alloc (.cells #[.int .u64 0, .int .u64 al] 54)).alloc (.cells #[.int .u64 xh, .int .u64 xl] 54)).cell? ⟨w.heap.size, 1, none⟩ = some (.int .u64 pl) := kc _ _ (two _ _ _) u1
  have v2 : ((w2.alloc (.cells #[.int .u64 0, .int .u64 al] 54)).alloc (.cells #[.int .u64 xh, .int .u64 xl] 54)).cell? ⟨w.heap.size + 1, 0, none⟩ = some (.int .u64 qh) := kc _ _ (two _ _ _) u2
  have v3 : ((w2.alloc (.cells #[.int .u64 0, .int .u64 al] 54)).alloc (.cells #[.int .u64 xh, .int .u64 xl] 54)).cell? ⟨w.heap.size + 1, 1, none⟩ = some (.int .u64 ql) := kc _ _ (two _ _ _) u3
  have v4 : ((w2.alloc (.cells #[.int .u64 0, .int .u64 al] 54)).alloc (.cells #[.int .u64 xh, .int .u64 xl] 54)).cell? ⟨w.heap.size + 1 + 1, 0, none⟩ = some (.int .i64 0) := kc _ _ (two _ _ _) u4
  have v5 : ((w2.alloc (.cells #[.int .u64 0, .int .u64 al] 54)).alloc (.cells #[.int .u64 xh, .int .u64 xl] 54)).cell? ⟨w.heap.size + 1 + 1, 1, none⟩ = some (.int .i64 0) := kc _ _ (two _ _ _) u5
  have vf0 : ((w2.alloc (.cells #[.int .u64 0, .int .u64 al] 54)).alloc (.cells #[.int .u64 xh, .int .u64 xl] 54)).frozen? ⟨w.heap.size + 1 + 1, 0, none⟩ = false := kf _ _ (two _ _ _) u4 uf0
  have vf1 : ((w2.alloc (.cells #[.int .u64 0, .int .u64 al] 54)).alloc (.cells #[.int .u64 xh, .int .u64 xl] 54)).frozen? ⟨w.heap.size + 1 + 1, 1, none⟩ = false := kf _ _ (two _ _ _) u5 uf1
  have vg0 : ((w2.alloc (.cells #[.int .u64 0, .int .u64 al] 54)).alloc (.cells #[.int .u64 xh, .int .u64 xl] 54)).cell? ⟨bg, 0, none⟩ = some (.int .u64 gh) := kc _ _ (two _ _ _) ug0
  have vg1 : ((w2.alloc (.cells #[.int .u64 0, .int .u64 al] 54)).alloc (.cells #[.int .u64 xh, .int .u64 xl] 54)).cell? ⟨bg, 1, none⟩ = some (.int .u64 gl) := kc _ _ (two _ _ _) ug1
  have vn0 : ((w2.alloc (.cells #[.int .u64 0, .int .u64 al] 54)).alloc (.cells #[.int .u64 xh, .int .u64 xl] 54)).cell? ⟨w2.heap.size, 0, none⟩ = some (.int .u64 0) := newC3 w2 _ _ _ 0
  have vn1 : ((w2.alloc (.cells #[.int .u64 0, .int .u64 al] 54)).alloc (.cells #[.int .u64 xh, .int .u64 xl] 54)).cell? ⟨w2.heap.size, 1, none⟩ = some (.int .u64 al) := newC3 w2 _ _ _ 1
  have hB3 : Below w.heap.size w ((w2.alloc (.cells #[.int .u64 0, .int .u64 al] 54)).alloc (.cells #[.int .u64 xh, .int .u64 xl] 54)) := beyond hB2 (two _ _ _)
  clear u0 u1 u2 u3 u4 u5 uf0 uf1 ug0 ug1 hB2
  generalize ((w2.alloc (.cells #[.int .u64 0, .int .u64 al] 54)).alloc (.cells #[.int .u64 xh, .int .u64 xl] 54)) = W2 at *
  generalize w2.heap.size = bn at *
  go_wp2_with fail
  refine (HD2.out _).mono ?_
  rintro e w3 ⟨rfl, hb⟩
  have u4 := kc _ _ hb v4
  have u5 := kc _ _ hb v5
  have uf0 := kf _ _ hb v4 vf0
  have uf1 := kf _ _ hb v5 vf1
  have un0 := kc _ _ hb vn0
  have un1 := kc _ _ hb vn1
  have hB4 : Below w.heap.size w w3 := beyond hB3 hb
  clear hb v0 v1 v2 v3 v4 v5 vf0 vf1 vg0 vg1 vn0 vn1 hB3 HD2 hq
  go_upto_region 6 with (fail)
  have x4 : ((w3.alloc (.cells #[.int .u64 0, .int .u64 bl] 54)).alloc (.cells #[.int .u64 yh, .int .u64 yl] 54)).cell? ⟨w.heap.size + 1 + 1, 0, none⟩ = some (.int .i64 0) := kc _ _ (two _ _ _) u4
  have x5 : ((w3.alloc (.cells #[.int .u64 0, .int .u64 bl] 54)).alloc (.cells #[.int .u64 yh, .int .u64 yl] 54)).cell? ⟨w.heap.size + 1 + 1, 1, none⟩ = some (.int .i64 0) := kc _ _ (two _ _ _) u5
  have xf0 : ((w3.alloc (.cells #[.int .u64 0, .int .u64 bl] 54)).alloc (.cells #[.int .u64 yh, .int .u64 yl] 54)).frozen? ⟨w.heap.size + 1 + 1, 0, none⟩ = false := kf _ _ (two _ _ _) u4 uf0
  have xf1 : ((w3.alloc (.cells #[.int .u64 0, .int .u64 bl] 54)).alloc (.cells #[.int .u64 yh, .int .u64 yl] 54)).frozen? ⟨w.heap.size + 1 + 1, 1, none⟩ = false := kf _ _ (two _ _ _) u5 uf1
  have xn0 : ((w3.alloc (.cells #[.int .u64 0, .int .u64 bl] 54)).alloc (.cells #[.int .u64 yh, .int .u64 yl] 54)).cell? ⟨bn, 0, none⟩ = some (.int .u64 0) := kc _ _ (two _ _ _) un0
  have xn1 : ((w3.alloc (.cells #[.int .u64 0, .int .u64 bl] 54)).alloc (.cells #[.int .u64 yh, .int .u64 yl] 54)).cell? ⟨bn, 1, none⟩ = some (.int .u64 al) := kc _ _ (two _ _ _) un1
  have xd0 : ((w3.alloc (.cells #[.int .u64 0, .int .u64 bl] 54)).alloc (.cells #[.int .u64 yh, .int .u64 yl] 54)).cell? ⟨w3.heap.size, 0, none⟩ = some (.int .u64 0) := newC3 w3 _ _ _ 0
  have xd1 : ((w3.alloc (.cells #[.int .u64 0, .int .u64 bl] 54)).alloc (.cells #[.int .u64 yh, .int .u64 yl] 54)).cell? ⟨w3.heap.size, 1, none⟩ = some (.int .u64 bl) := newC3 w3 _ _ _ 1
  have hB5 : Below w.heap.size w ((w3.alloc (.cells #[.int .u64 0, .int .u64 bl] 54)).alloc (.cells #[.int .u64 yh, .int .u64 yl] 54)) := beyond hB4 (two _ _ _)
  clear u4 u5 uf0 uf1 un0 un1 hB4
  generalize ((w3.alloc (.cells #[.int .u64 0, .int .u64 bl] 54)).alloc (.cells #[.int .u64 yh, .int .u64 yl] 54)) = W3 at *
  generalize w3.heap.size = bd at *
  have y4 : ∀ O, (W3.alloc O).cell? ⟨w.heap.size + 1 + 1, 0, none⟩ = some (.int .i64 0) := fun O => kc _ _ (single _ _) x4
  have y5 : ∀ O, (W3.alloc O).cell? ⟨w.heap.size + 1 + 1, 1, none⟩ = some (.int .i64 0) := fun O => kc _ _ (single _ _) x5
  have yn0 : ∀ O, (W3.alloc O).cell? ⟨bn, 0, none⟩ = some (.int .u64 0) := fun O => kc _ _ (single _ _) xn0
  have yn1 : ∀ O, (W3.alloc O).cell? ⟨bn, 1, none⟩ = some (.int .u64 al) := fun O => kc _ _ (single _ _) xn1
  have yf0 : ∀ O, (W3.alloc O).frozen? ⟨w.heap.size + 1 + 1, 0, none⟩ = false := fun O => kf _ _ (single _ _) x4 xf0
  have yf1 : ∀ O, (W3.alloc O).frozen? ⟨w.heap.size + 1 + 1, 1, none⟩ = false := fun O => kf _ _ (single _ _) x5 xf1
  have l3 : w.heap.size + 1 + 1 < W3.heap.size := World.block_lt_of_cell? _ _ x4
  have l4 : bn < W3.heap.size := World.block_lt_of_cell? _ _ xn0
  have m1 : ¬ W3.heap.size = w.heap.size + 1 + 1 := by omega
  have m2 : ¬ w.heap.size + 1 + 1 = W3.heap.size := by omega
  have m3 : ¬ W3.heap.size = bn := by omega
  have m4 : ¬ bn = W3.heap.size := by omega
  have HB6 := hideR (show ∀ O, Below w.heap.size w (W3.alloc O) from fun O => beyond hB5 (single _ _))
  have HB5 := hideR hB5
  clear l1 l3 l4 hB5
  go_wp2_with fail
  refine bodyPost_ret (v := trip (0, 0, 20)) (by simp [results, Tryd.results38, go_sem, *]) rfl ⟨rfl, ?_⟩
  first | exact set2 HB5.out (by omega) _ _ | exact set2 (HB6.out _) (by omega) _ _ | exact HB5.out | (refine set2 (Below.setCell (HB6.out _) ?_ _) (by omega) _ _; have := (HB6.out default).size; simp at this; omega) | trace_state
set_option maxRecDepth 100000 in
set_option maxHeartbeats 8000000 in
theorem xheld_l_true_ok (ph pl qh ql gh gl al bl xh xl yh yl : Int) (w : World) (hq : ¬ ql = 0) (nn : Int) (e2 : ¬ 9223372036854775808 < al) (hc : ¬ 9223372036854775807 < bl) (z1 : IntKind.i64.wrap bl = bl) (z2 : IntKind.i64.wrap (IntKind.u64.wrap (-al)) = nn)
    (HC : Hid (∀ w, Calls Tryd.prog 42 #[.agg #[.int .u64 ph, .int .u64 pl], .agg #[.int .u64 qh, .int .u64 ql]] w fun e w' => e = .returned (.agg #[.int .u64 gh, .int .u64 gl]) ∧ Below w.heap.size w w'))
    (HD1 : Hid (∀ w, Calls Tryd.prog 65 #[.agg #[.int .u64 ph, .int .u64 pl], .agg #[.int .u64 gh, .int .u64 gl]] w fun e w' => e = .returned (.tuple #[.agg #[.int .u64 0, .int .u64 al], .agg #[.int .u64 xh, .int .u64 xl]]) ∧ Below w.heap.size w w'))
    (HD2 : Hid (∀ w, Calls Tryd.prog 65 #[.agg #[.int .u64 qh, .int .u64 ql], .agg #[.int .u64 gh, .int .u64 gl]] w fun e w' => e = .returned (.tuple #[.agg #[.int .u64 0, .int .u64 bl], .agg #[.int .u64 yh, .int .u64 yl]]) ∧ Below w.heap.size w w')) :
    Calls Tryd.prog 38 #[.bool true, .agg #[.int .u64 ph, .int .u64 pl], .agg #[.int .u64 qh, .int .u64 ql]] w fun e w' => e = .returned (trip (nn, bl, 0)) ∧ Below w.heap.size w w' := by
  have n1 : ¬ w.heap.size = w.heap.size + 1 + 1 := by omega
  have n2 : ¬ w.heap.size + 1 + 1 = w.heap.size := by omega
  go_enter Tryd.func38, Tryd.ntmps38
  go_wp2_with fail
  refine (HC.out _).mono ?_
  rintro e w1 ⟨rfl, hb⟩
  have s0 := kc ⟨w.heap.size, 0, none⟩ (.int .u64 ph) hb (by first | assumption | simp [go_sem, *])
  have s1 := kc ⟨w.heap.size, 1, none⟩ (.int .u64 pl) hb (by first | assumption | simp [go_sem, *])
  have s2 := kc ⟨w.heap.size + 1, 0, none⟩ (.int .u64 qh) hb (by first | assumption | simp [go_sem, *])
  have s3 := kc ⟨w.heap.size + 1, 1, none⟩ (.int .u64 ql) hb (by first | assumption | simp [go_sem, *])
  have s4 := kc ⟨w.heap.size + 1 + 1, 0, none⟩ (.int .i64 0) hb (by first | assumption | simp [go_sem, *])
  have s5 := kc ⟨w.heap.size + 1 + 1, 1, none⟩ (.int .i64 0) hb (by first | assumption | simp [go_sem, *])
  have sf0 := kf ⟨w.heap.size + 1 + 1, 0, none⟩ (.int .i64 0) hb (by first | assumption | simp [go_sem, *]) (by first | assumption | simp [go_sem, *])
  have sf1 := kf ⟨w.heap.size + 1 + 1, 1, none⟩ (.int .i64 0) hb (by first | assumption | simp [go_sem, *]) (by first | assumption | simp [go_sem, *])
  have hB1 : Below w.heap.size w w1 := beyond (three w _ _ _) hb
  clear hb
  have l1 : w.heap.size + 1 + 1 < w1.heap.size := World.block_lt_of_cell? _ _ s4
  go_upto_region 4 with (fail)
  have t0 : (w1.alloc (.cells #[.int .u64 gh, .int .u64 gl] 54)).cell? ⟨w.heap.size, 0, none⟩ = some (.int .u64 ph) := kc _ _ (single _ _) s0
  have t1 : (w1.alloc (.cells #[.int .u64 gh, .int .u64 gl] 54)).cell? ⟨w.heap.size, 1, none⟩ = some (.int .u64 pl) := kc _ _ (single _ _) s1
  have t2 : (w1.alloc (.cells #[.int .u64 gh, .int .u64 gl] 54)).cell? ⟨w.heap.size + 1, 0, none⟩ = some (.int .u64 qh) := kc _ _ (single _ _) s2
  have t3 : (w1.alloc (.cells #[.int .u64 gh, .int .u64 gl] 54)).cell? ⟨w.heap.size + 1, 1, none⟩ = some (.int .u64 ql) := kc _ _ (single _ _) s3
  have t4 : (w1.alloc (.cells #[.int .u64 gh, .int .u64 gl] 54)).cell? ⟨w.heap.size + 1 + 1, 0, none⟩ = some (.int .i64 0) := kc _ _ (single _ _) s4
  have t5 : (w1.alloc (.cells #[.int .u64 gh, .int .u64 gl] 54)).cell? ⟨w.heap.size + 1 + 1, 1, none⟩ = some (.int .i64 0) := kc _ _ (single _ _) s5
  have tf0 : (w1.alloc (.cells #[.int .u64 gh, .int .u64 gl] 54)).frozen? ⟨w.heap.size + 1 + 1, 0, none⟩ = false := kf _ _ (single _ _) s4 sf0
  have tf1 : (w1.alloc (.cells #[.int .u64 gh, .int .u64 gl] 54)).frozen? ⟨w.heap.size + 1 + 1, 1, none⟩ = false := kf _ _ (single _ _) s5 sf1
  have tg0 : (w1.alloc (.cells #[.int .u64 gh, .int .u64 gl] 54)).cell? ⟨w1.heap.size, 0, none⟩ = some (.int .u64 gh) := new_cell w1 _ _ 0
  have tg1 : (w1.alloc (.cells #[.int .u64 gh, .int .u64 gl] 54)).cell? ⟨w1.heap.size, 1, none⟩ = some (.int .u64 gl) := new_cell w1 _ _ 1
  have hBG : Below w.heap.size w (w1.alloc (.cells #[.int .u64 gh, .int .u64 gl] 54)) := beyond hB1 (single _ _)
  clear s0 s1 s2 s3 s4 s5 sf0 sf1 hB1 HC
  generalize (w1.alloc (.cells #[.int .u64 gh, .int .u64 gl] 54)) = W1 at *
  generalize w1.heap.size = bg at *
  go_wp2_with fail
  refine (HD1.out _).mono ?_
  rintro e w2 ⟨rfl, hb⟩
  have u0 := kc _ _ hb t0
  have u1 := kc _ _ hb t1
  have u2 := kc _ _ hb t2
  have u3 := kc _ _ hb t3
  have u4 := kc _ _ hb t4
  have u5 := kc _ _ hb t5
  have uf0 := kf _ _ hb t4 tf0
  have uf1 := kf _ _ hb t5 tf1
  have ug0 := kc _ _ hb tg0
  have ug1 := kc _ _ hb tg1
  have hB2 : Below w.heap.size w w2 := beyond hBG hb
  clear hb t0 t1 t2 t3 t4 t5 tf0 tf1 tg0 tg1 hBG HD1
  go_upto_region 5 with (fail)
  have v0 : ((w2.alloc (.cells #[.int .u64 0, .int .u64 al] 54)).alloc (.cells #[.int .u64 xh, .int .u64 xl] 54)).cell? ⟨w.heap.size, 0, none⟩ = some (.int .u64 ph) := kc _ _ (two _ _ _) u0
  have v1 : ((w2.alloc (.cells #[.int .u64 0, .int .u64 al] 54)).alloc (.cells #[.int .u64 xh, .int .u64 xl] 54)).cell? ⟨w.heap.size, 1, none⟩ = some (.int .u64 pl) := kc _ _ (two _ _ _) u1
  have v2 : ((w2.alloc (.cells #[.int .u64 0, .int .u64 al] 54)).alloc (.cells #[.int .u64 xh, .int .u64 xl] 54)).cell? ⟨w.heap.size + 1, 0, none⟩ = some (.int .u64 qh) := kc _ _ (two _ _ _) u2
  have v3 : ((w2.alloc (.cells #[.int .u64 0, .int .u64 al] 54)).alloc (.cells #[.int .u64 xh, .int .u64 xl] 54)).cell? ⟨w.heap.size + 1, 1, none⟩ = some (.int .u64 ql) := kc _ _ (two _ _ _) u3
  have v4 : ((w2.alloc (.cells #[.int .u64 0, .int .u64 al] 54)).alloc (.cells #[.int .u64 xh, .int .u64 xl] 54)).cell? ⟨w.heap.size + 1 + 1, 0, none⟩ = some (.int .i64 0) := kc _ _ (two _ _ _) u4
  have v5 : ((w2.alloc (.cells #[.int .u64 0, .int .u64 al] 54)).alloc (.cells #[.int .u64 xh, .int .u64 xl] 54)).cell? ⟨w.heap.size + 1 + 1, 1, none⟩ = some (.int .i64 0) := kc _ _ (two _ _ _) u5
  have vf0 : ((w2.alloc (.cells #[.int .u64 0, .int .u64 al] 54)).alloc (.cells #[.int .u64 xh, .int .u64 xl] 54)).frozen? ⟨w.heap.size + 1 + 1, 0, none⟩ = false := kf _ _ (two _ _ _) u4 uf0
  have vf1 : ((w2.alloc (.cells #[.int .u64 0, .int .u64 al] 54)).alloc (.cells #[.int .u64 xh, .int .u64 xl] 54)).frozen? ⟨w.heap.size + 1 + 1, 1, none⟩ = false := kf _ _ (two _ _ _) u5 uf1
  have vg0 : ((w2.alloc (.cells #[.int .u64 0, .int .u64 al] 54)).alloc (.cells #[.int .u64 xh, .int .u64 xl] 54)).cell? ⟨bg, 0, none⟩ = some (.int .u64 gh) := kc _ _ (two _ _ _) ug0
  have vg1 : ((w2.alloc (.cells #[.int .u64 0, .int .u64 al] 54)).alloc (.cells #[.int .u64 xh, .int .u64 xl] 54)).cell? ⟨bg, 1, none⟩ = some (.int .u64 gl) := kc _ _ (two _ _ _) ug1
  have vn0 : ((w2.alloc (.cells #[.int .u64 0, .int .u64 al] 54)).alloc (.cells #[.int .u64 xh, .int .u64 xl] 54)).cell? ⟨w2.heap.size, 0, none⟩ = some (.int .u64 0) := newC3 w2 _ _ _ 0
  have vn1 : ((w2.alloc (.cells #[.int .u64 0, .int .u64 al] 54)).alloc (.cells #[.int .u64 xh, .int .u64 xl] 54)).cell? ⟨w2.heap.size, 1, none⟩ = some (.int .u64 al) := newC3 w2 _ _ _ 1
  have hB3 : Below w.heap.size w ((w2.alloc (.cells #[.int .u64 0, .int .u64 al] 54)).alloc (.cells #[.int .u64 xh, .int .u64 xl] 54)) := beyond hB2 (two _ _ _)
  clear u0 u1 u2 u3 u4 u5 uf0 uf1 ug0 ug1 hB2
  generalize ((w2.alloc (.cells #[.int .u64 0, .int .u64 al] 54)).alloc (.cells #[.int .u64 xh, .int .u64 xl] 54)) = W2 at *
  generalize w2.heap.size = bn at *
  go_wp2_with fail
  refine (HD2.out _).mono ?_
  rintro e w3 ⟨rfl, hb⟩
  have u4 := kc _ _ hb v4
  have u5 := kc _ _ hb v5
  have uf0 := kf _ _ hb v4 vf0
  have uf1 := kf _ _ hb v5 vf1
  have un0 := kc _ _ hb vn0
  have un1 := kc _ _ hb vn1
  have hB4 : Below w.heap.size w w3 := beyond hB3 hb
  clear hb v0 v1 v2 v3 v4 v5 vf0 vf1 vg0 vg1 vn0 vn1 hB3 HD2 hq
  go_upto_region 6 with (fail)
  have x4 : ((w3.alloc (.cells #[.int .u64 0, .int .u64 bl] 54)).alloc (.cells #[.int .u64 yh, .int .u64 yl] 54)).cell? ⟨w.heap.size + 1 + 1, 0, none⟩ = some (.int .i64 0) := kc _ _ (two _ _ _) u4
  have x5 : ((w3.alloc (.cells #[.int .u64 0, .int .u64 bl] 54)).alloc (.cells #[.int .u64 yh, .int .u64 yl] 54)).cell? ⟨w.heap.size + 1 + 1, 1, none⟩ = some (.int .i64 0) := kc _ _ (two _ _ _) u5
  have xf0 : ((w3.alloc (.cells #[.int .u64 0, .int .u64 bl] 54)).alloc (.cells #[.int .u64 yh, .int .u64 yl] 54)).frozen? ⟨w.heap.size + 1 + 1, 0, none⟩ = false := kf _ _ (two _ _ _) u4 uf0
  have xf1 : ((w3.alloc (.cells #[.int .u64 0, .int .u64 bl] 54)).alloc (.cells #[.int .u64 yh, .int .u64 yl] 54)).frozen? ⟨w.heap.size + 1 + 1, 1, none⟩ = false := kf _ _ (two _ _ _) u5 uf1
  have xn0 : ((w3.alloc (.cells #[.int .u64 0, .int .u64 bl] 54)).alloc (.cells #[.int .u64 yh, .int .u64 yl] 54)).cell? ⟨bn, 0, none⟩ = some (.int .u64 0) := kc _ _ (two _ _ _) un0
  have xn1 : ((w3.alloc (.cells #[.int .u64 0, .int .u64 bl] 54)).alloc (.cells #[.int .u64 yh, .int .u64 yl] 54)).cell? ⟨bn, 1, none⟩ = some (.int .u64 al) := kc _ _ (two _ _ _) un1
  have xd0 : ((w3.alloc (.cells #[.int .u64 0, .int .u64 bl] 54)).alloc (.cells #[.int .u64 yh, .int .u64 yl] 54)).cell? ⟨w3.heap.size, 0, none⟩ = some (.int .u64 0) := newC3 w3 _ _ _ 0
  have xd1 : ((w3.alloc (.cells #[.int .u64 0, .int .u64 bl] 54)).alloc (.cells #[.int .u64 yh, .int .u64 yl] 54)).cell? ⟨w3.heap.size, 1, none⟩ = some (.int .u64 bl) := newC3 w3 _ _ _ 1
  have hB5 : Below w.heap.size w ((w3.alloc (.cells #[.int .u64 0, .int .u64 bl] 54)).alloc (.cells #[.int .u64 yh, .int .u64 yl] 54)) := beyond hB4 (two _ _ _)
  clear u4 u5 uf0 uf1 un0 un1 hB4
  generalize ((w3.alloc (.cells #[.int .u64 0, .int .u64 bl] 54)).alloc (.cells #[.int .u64 yh, .int .u64 yl] 54)) = W3 at *
  generalize w3.heap.size = bd at *
  have y4 : ∀ O, (W3.alloc O).cell? ⟨w.heap.size + 1 + 1, 0, none⟩ = some (.int .i64 0) := fun O => kc _ _ (single _ _) x4
  have y5 : ∀ O, (W3.alloc O).cell? ⟨w.heap.size + 1 + 1, 1, none⟩ = some (.int .i64 0) := fun O => kc _ _ (single _ _) x5
  have yn0 : ∀ O, (W3.alloc O).cell? ⟨bn, 0, none⟩ = some (.int .u64 0) := fun O => kc _ _ (single _ _) xn0
  have yn1 : ∀ O, (W3.alloc O).cell? ⟨bn, 1, none⟩ = some (.int .u64 al) := fun O => kc _ _ (single _ _) xn1
  have yf0 : ∀ O, (W3.alloc O).frozen? ⟨w.heap.size + 1 + 1, 0, none⟩ = false := fun O => kf _ _ (single _ _) x4 xf0
  have yf1 : ∀ O, (W3.alloc O).frozen? ⟨w.heap.size + 1 + 1, 1, none⟩ = false := fun O => kf _ _ (single _ _) x5 xf1
  have l3 : w.heap.size + 1 + 1 < W3.heap.size := World.block_lt_of_cell? _ _ x4
  have l4 : bn < W3.heap.size := World.block_lt_of_cell? _ _ xn0
  have m1 : ¬ W3.heap.size = w.heap.size + 1 + 1 := by omega
  have m2 : ¬ w.heap.size + 1 + 1 = W3.heap.size := by omega
  have m3 : ¬ W3.heap.size = bn := by omega
  have m4 : ¬ bn = W3.heap.size := by omega
  have HB6 := hideR (show ∀ O, Below w.heap.size w (W3.alloc O) from fun O => beyond hB5 (single _ _))
  have HB5 := hideR hB5
  clear l1 l3 l4 hB5
  go_wp2_with fail
  refine bodyPost_ret (v := trip (nn, bl, 0)) (by simp [results, Tryd.results38, go_sem, *]) rfl ⟨rfl, ?_⟩
  first | exact set2 HB5.out (by omega) _ _ | exact set2 (HB6.out _) (by omega) _ _ | exact HB5.out | (refine set2 (Below.setCell (HB6.out _) ?_ _) (by omega) _ _; have := (HB6.out default).size; simp at this; omega) | trace_state
end Go.Proofs.YtnhopmoboahlgaaDoor
