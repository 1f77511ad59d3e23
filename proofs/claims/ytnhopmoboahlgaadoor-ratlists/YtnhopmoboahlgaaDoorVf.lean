/-
  The contracts of rat.Div, divide, Floor, Ceil and Frac.
-/
import Derived.Test.YtnhopmoboahlgaaDoorVe
namespace Go.Proofs.YtnhopmoboahlgaaDoor
open Go.RowKit Go.Shelf
set_option linter.unusedVariables false
theorem rdiv_not1 (an ad bn bd : Int) (w : World) (HR : Hid (AskR an ad false)) :
    Calls Tryd.prog 20 #[rv an ad, rv bn bd] w fun e w' => e = .returned (.tuple #[rv 0 0, .int .i64 7]) ∧ Below w.heap.size w w' := by
  have n1 : ¬ w.heap.size = w.heap.size + 1 + 1 := by omega
  have n2 : ¬ w.heap.size + 1 + 1 = w.heap.size := by omega
  go_enter Tryd.func20, Tryd.ntmps20
  go_wp2_with fail
  refine (HR.out _).mono ?_
  rintro e w1 ⟨rfl, hb⟩
  have s0 := kc ⟨w.heap.size, 0, none⟩ (.int .i64 an) hb (by first | assumption | simp [go_sem, *])
  have s1 := kc ⟨w.heap.size, 1, none⟩ (.int .i64 ad) hb (by first | assumption | simp [go_sem, *])
  have s2 := kc ⟨w.heap.size + 1, 0, none⟩ (.int .i64 bn) hb (by first | assumption | simp [go_sem, *])
  have s3 := kc ⟨w.heap.size + 1, 1, none⟩ (.int .i64 bd) hb (by first | assumption | simp [go_sem, *])
  have s4 := kc ⟨w.heap.size + 1 + 1, 0, none⟩ (.int .i64 0) hb (by first | assumption | simp [go_sem, *])
  have s5 := kc ⟨w.heap.size + 1 + 1, 1, none⟩ (.int .i64 0) hb (by first | assumption | simp [go_sem, *])
  have sf0 := kf ⟨w.heap.size + 1 + 1, 0, none⟩ (.int .i64 0) hb (by first | assumption | simp [go_sem, *]) (by first | assumption | simp [go_sem, *])
  have sf1 := kf ⟨w.heap.size + 1 + 1, 1, none⟩ (.int .i64 0) hb (by first | assumption | simp [go_sem, *]) (by first | assumption | simp [go_sem, *])
  have hB := beyond (three w _ _ _) hb
  clear hb
  go_wp2_with fail
  refine bodyPost_ret (v := .tuple #[rv 0 0, .int .i64 7]) (by simp [results, Tryd.results20, go_sem, *]) rfl ⟨rfl, ?_⟩
  first | exact hB | exact set2 hB (by omega) _ _
theorem rdiv_not2 (an ad bn bd : Int) (w : World) (HR : Hid (AskR an ad true)) (HR2 : Hid (AskR bn bd false)) :
    Calls Tryd.prog 20 #[rv an ad, rv bn bd] w fun e w' => e = .returned (.tuple #[rv 0 0, .int .i64 7]) ∧ Below w.heap.size w w' := by
  have n1 : ¬ w.heap.size = w.heap.size + 1 + 1 := by omega
  have n2 : ¬ w.heap.size + 1 + 1 = w.heap.size := by omega
  go_enter Tryd.func20, Tryd.ntmps20
  go_wp2_with fail
  refine (HR.out _).mono ?_
  rintro e w1 ⟨rfl, hb⟩
  have s0 := kc ⟨w.heap.size, 0, none⟩ (.int .i64 an) hb (by first | assumption | simp [go_sem, *])
  have s1 := kc ⟨w.heap.size, 1, none⟩ (.int .i64 ad) hb (by first | assumption | simp [go_sem, *])
  have s2 := kc ⟨w.heap.size + 1, 0, none⟩ (.int .i64 bn) hb (by first | assumption | simp [go_sem, *])
  have s3 := kc ⟨w.heap.size + 1, 1, none⟩ (.int .i64 bd) hb (by first | assumption | simp [go_sem, *])
  have s4 := kc ⟨w.heap.size + 1 + 1, 0, none⟩ (.int .i64 0) hb (by first | assumption | simp [go_sem, *])
  have s5 := kc ⟨w.heap.size + 1 + 1, 1, none⟩ (.int .i64 0) hb (by first | assumption | simp [go_sem, *])
  have sf0 := kf ⟨w.heap.size + 1 + 1, 0, none⟩ (.int .i64 0) hb (by first | assumption | simp [go_sem, *]) (by first | assumption | simp [go_sem, *])
  have sf1 := kf ⟨w.heap.size + 1 + 1, 1, none⟩ (.int .i64 0) hb (by first | assumption | simp [go_sem, *]) (by first | assumption | simp [go_sem, *])
  have hB := beyond (three w _ _ _) hb
  clear hb
  go_wp2_with fail
  refine (HR2.out _).mono ?_
  rintro e w2 ⟨rfl, hb2⟩
  have u0 := kc ⟨w.heap.size, 0, none⟩ (.int .i64 an) hb2 (by first | assumption | simp [go_sem, *])
  have u1 := kc ⟨w.heap.size, 1, none⟩ (.int .i64 ad) hb2 (by first | assumption | simp [go_sem, *])
  have u2 := kc ⟨w.heap.size + 1, 0, none⟩ (.int .i64 bn) hb2 (by first | assumption | simp [go_sem, *])
  have u3 := kc ⟨w.heap.size + 1, 1, none⟩ (.int .i64 bd) hb2 (by first | assumption | simp [go_sem, *])
  have u4 := kc ⟨w.heap.size + 1 + 1, 0, none⟩ (.int .i64 0) hb2 (by first | assumption | simp [go_sem, *])
  have u5 := kc ⟨w.heap.size + 1 + 1, 1, none⟩ (.int .i64 0) hb2 (by first | assumption | simp [go_sem, *])
  have uf0 := kf ⟨w.heap.size + 1 + 1, 0, none⟩ (.int .i64 0) hb2 (by first | assumption | simp [go_sem, *]) (by first | assumption | simp [go_sem, *])
  have uf1 := kf ⟨w.heap.size + 1 + 1, 1, none⟩ (.int .i64 0) hb2 (by first | assumption | simp [go_sem, *]) (by first | assumption | simp [go_sem, *])
  have hB2 := beyond hB hb2
  clear hb2 hB s0 s1 s2 s3 s4 s5 sf0 sf1
  go_wp2_with fail
  refine bodyPost_ret (v := .tuple #[rv 0 0, .int .i64 7]) (by simp [results, Tryd.results20, go_sem, *]) rfl ⟨rfl, ?_⟩
  first | exact hB2 | exact set2 hB2 (by omega) _ _
theorem rdiv_zero (an ad bd : Int) (w : World) (HR : Hid (AskR an ad true)) (HR2 : Hid (AskR 0 bd true)) :
    Calls Tryd.prog 20 #[rv an ad, rv 0 bd] w fun e w' => e = .returned (.tuple #[rv 0 0, .int .i64 21]) ∧ Below w.heap.size w w' := by
  have n1 : ¬ w.heap.size = w.heap.size + 1 + 1 := by omega
  have n2 : ¬ w.heap.size + 1 + 1 = w.heap.size := by omega
  go_enter Tryd.func20, Tryd.ntmps20
  go_wp2_with fail
  refine (HR.out _).mono ?_
  rintro e w1 ⟨rfl, hb⟩
  have s0 := kc ⟨w.heap.size, 0, none⟩ (.int .i64 an) hb (by first | assumption | simp [go_sem, *])
  have s1 := kc ⟨w.heap.size, 1, none⟩ (.int .i64 ad) hb (by first | assumption | simp [go_sem, *])
  have s2 := kc ⟨w.heap.size + 1, 0, none⟩ (.int .i64 0) hb (by first | assumption | simp [go_sem, *])
  have s3 := kc ⟨w.heap.size + 1, 1, none⟩ (.int .i64 bd) hb (by first | assumption | simp [go_sem, *])
  have s4 := kc ⟨w.heap.size + 1 + 1, 0, none⟩ (.int .i64 0) hb (by first | assumption | simp [go_sem, *])
  have s5 := kc ⟨w.heap.size + 1 + 1, 1, none⟩ (.int .i64 0) hb (by first | assumption | simp [go_sem, *])
  have sf0 := kf ⟨w.heap.size + 1 + 1, 0, none⟩ (.int .i64 0) hb (by first | assumption | simp [go_sem, *]) (by first | assumption | simp [go_sem, *])
  have sf1 := kf ⟨w.heap.size + 1 + 1, 1, none⟩ (.int .i64 0) hb (by first | assumption | simp [go_sem, *]) (by first | assumption | simp [go_sem, *])
  have hB := beyond (three w _ _ _) hb
  clear hb
  go_wp2_with fail
  refine (HR2.out _).mono ?_
  rintro e w2 ⟨rfl, hb2⟩
  have u0 := kc ⟨w.heap.size, 0, none⟩ (.int .i64 an) hb2 (by first | assumption | simp [go_sem, *])
  have u1 := kc ⟨w.heap.size, 1, none⟩ (.int .i64 ad) hb2 (by first | assumption | simp [go_sem, *])
  have u2 := kc ⟨w.heap.size + 1, 0, none⟩ (.int .i64 0) hb2 (by first | assumption | simp [go_sem, *])
  have u3 := kc ⟨w.heap.size + 1, 1, none⟩ (.int .i64 bd) hb2 (by first | assumption | simp [go_sem, *])
  have u4 := kc ⟨w.heap.size + 1 + 1, 0, none⟩ (.int .i64 0) hb2 (by first | assumption | simp [go_sem, *])
  have u5 := kc ⟨w.heap.size + 1 + 1, 1, none⟩ (.int .i64 0) hb2 (by first | assumption | simp [go_sem, *])
  have uf0 := kf ⟨w.heap.size + 1 + 1, 0, none⟩ (.int .i64 0) hb2 (by first | assumption | simp [go_sem, *]) (by first | assumption | simp [go_sem, *])
  have uf1 := kf ⟨w.heap.size + 1 + 1, 1, none⟩ (.int .i64 0) hb2 (by first | assumption | simp [go_sem, *]) (by first | assumption | simp [go_sem, *])
  have hB2 := beyond hB hb2
  clear hb2 hB s0 s1 s2 s3 s4 s5 sf0 sf1
  go_wp2_with fail
  refine bodyPost_ret (v := .tuple #[rv 0 0, .int .i64 21]) (by simp [results, Tryd.results20, go_sem, *]) rfl ⟨rfl, ?_⟩
  first | exact hB2 | exact set2 hB2 (by omega) _ _
set_option maxRecDepth 100000 in
set_option maxHeartbeats 8000000 in
theorem rdiv_yes (an ad bn bd p1 q1 p2 q2 n d c : Int) (g1 g2 : Bool) (w : World) (hz : ¬ bn = 0) (HR : Hid (AskR an ad true)) (HR2 : Hid (AskR bn bd true))
    (HTa : Hid (∀ w, Calls Tryd.prog 44 #[rv an ad] w fun e w' => e = .returned (tv p1 q1 g1) ∧ Below w.heap.size w w'))
    (HTb : Hid (∀ w, Calls Tryd.prog 44 #[rv bn bd] w fun e w' => e = .returned (tv p2 q2 g2) ∧ Below w.heap.size w w'))
    (HS : Hid (∀ w, Calls Tryd.prog 48 #[tv p1 q1 g1, tv q2 p2 g2] w fun e w' => e = .returned (.tuple #[rv n d, .int .i64 c]) ∧ Below w.heap.size w w')) :
    Calls Tryd.prog 20 #[rv an ad, rv bn bd] w fun e w' => e = .returned (.tuple #[rv n d, .int .i64 c]) ∧ Below w.heap.size w w' := by
  have n1 : ¬ w.heap.size = w.heap.size + 1 + 1 := by omega
  have n2 : ¬ w.heap.size + 1 + 1 = w.heap.size := by omega
  go_enter Tryd.func20, Tryd.ntmps20
  go_wp2_with fail
  refine (HR.out _).mono ?_
  rintro e w1 ⟨rfl, hb⟩
  have s0 := kc ⟨w.heap.size, 0, none⟩ (.int .i64 an) hb (by first | assumption | simp [go_sem, *])
  have s1 := kc ⟨w.heap.size, 1, none⟩ (.int .i64 ad) hb (by first | assumption | simp [go_sem, *])
  have s2 := kc ⟨w.heap.size + 1, 0, none⟩ (.int .i64 bn) hb (by first | assumption | simp [go_sem, *])
  have s3 := kc ⟨w.heap.size + 1, 1, none⟩ (.int .i64 bd) hb (by first | assumption | simp [go_sem, *])
  have s4 := kc ⟨w.heap.size + 1 + 1, 0, none⟩ (.int .i64 0) hb (by first | assumption | simp [go_sem, *])
  have s5 := kc ⟨w.heap.size + 1 + 1, 1, none⟩ (.int .i64 0) hb (by first | assumption | simp [go_sem, *])
  have sf0 := kf ⟨w.heap.size + 1 + 1, 0, none⟩ (.int .i64 0) hb (by first | assumption | simp [go_sem, *]) (by first | assumption | simp [go_sem, *])
  have sf1 := kf ⟨w.heap.size + 1 + 1, 1, none⟩ (.int .i64 0) hb (by first | assumption | simp [go_sem, *]) (by first | assumption | simp [go_sem, *])
  have hB := beyond (three w _ _ _) hb
  clear hb
  go_wp2_with fail
  refine (HR2.out _).mono ?_
  rintro e w2 ⟨rfl, hb2⟩
  have u0 := kc ⟨w.heap.size, 0, none⟩ (.int .i64 an) hb2 (by first | assumption | simp [go_sem, *])
  have u1 := kc ⟨w.heap.size, 1, none⟩ (.int .i64 ad) hb2 (by first | assumption | simp [go_sem, *])
  have u2 := kc ⟨w.heap.size + 1, 0, none⟩ (.int .i64 bn) hb2 (by first | assumption | simp [go_sem, *])
  have u3 := kc ⟨w.heap.size + 1, 1, none⟩ (.int .i64 bd) hb2 (by first | assumption | simp [go_sem, *])
  have u4 := kc ⟨w.heap.size + 1 + 1, 0, none⟩ (.int .i64 0) hb2 (by first | assumption | simp [go_sem, *])
  have u5 := kc ⟨w.heap.size + 1 + 1, 1, none⟩ (.int .i64 0) hb2 (by first | assumption | simp [go_sem, *])
  have uf0 := kf ⟨w.heap.size + 1 + 1, 0, none⟩ (.int .i64 0) hb2 (by first | assumption | simp [go_sem, *]) (by first | assumption | simp [go_sem, *])
  have uf1 := kf ⟨w.heap.size + 1 + 1, 1, none⟩ (.int .i64 0) hb2 (by first | assumption | simp [go_sem, *]) (by first | assumption | simp [go_sem, *])
  have hB2 := beyond hB hb2
  clear hb2 hB s0 s1 s2 s3 s4 s5 sf0 sf1
  go_wp2_with fail
  refine (HTb.out _).mono ?_
  rintro e w3 ⟨rfl, hb3⟩
  have x0 := kc ⟨w.heap.size, 0, none⟩ (.int .i64 an) hb3 (by first | assumption | simp [go_sem, *])
  have x1 := kc ⟨w.heap.size, 1, none⟩ (.int .i64 ad) hb3 (by first | assumption | simp [go_sem, *])
  have x2 := kc ⟨w.heap.size + 1 + 1, 0, none⟩ (.int .i64 0) hb3 (by first | assumption | simp [go_sem, *])
  have x3 := kc ⟨w.heap.size + 1 + 1, 1, none⟩ (.int .i64 0) hb3 (by first | assumption | simp [go_sem, *])
  have xf0 := kf ⟨w.heap.size + 1 + 1, 0, none⟩ (.int .i64 0) hb3 (by first | assumption | simp [go_sem, *]) (by first | assumption | simp [go_sem, *])
  have xf1 := kf ⟨w.heap.size + 1 + 1, 1, none⟩ (.int .i64 0) hb3 (by first | assumption | simp [go_sem, *]) (by first | assumption | simp [go_sem, *])
  have hB3 := beyond hB2 hb3
  have l0 : w.heap.size + 1 + 1 < w3.heap.size := World.block_lt_of_cell? _ _ x2
  clear hb3 hB2 u0 u1 u2 u3 u4 u5 uf0 uf1
  have r0 : ∀ O, (w3.alloc O).cell? ⟨w.heap.size, 0, none⟩ = some (.int .i64 an) := fun O => kc _ _ (single _ _) x0
  have r1 : ∀ O, (w3.alloc O).cell? ⟨w.heap.size, 1, none⟩ = some (.int .i64 ad) := fun O => kc _ _ (single _ _) x1
  have r2 : ∀ O, (w3.alloc O).cell? ⟨w.heap.size + 1 + 1, 0, none⟩ = some (.int .i64 0) := fun O => kc _ _ (single _ _) x2
  have r3 : ∀ O, (w3.alloc O).cell? ⟨w.heap.size + 1 + 1, 1, none⟩ = some (.int .i64 0) := fun O => kc _ _ (single _ _) x3
  have r4 : ∀ O, (w3.alloc O).frozen? ⟨w.heap.size + 1 + 1, 0, none⟩ = false := fun O => kf _ _ (single _ _) x2 xf0
  have r5 : ∀ O, (w3.alloc O).frozen? ⟨w.heap.size + 1 + 1, 1, none⟩ = false := fun O => kf _ _ (single _ _) x3 xf1
  have r6 : ∀ O, Below w.heap.size w (w3.alloc O) := fun O => beyond hB3 (single _ _)
  have m1 : ¬ w3.heap.size = w.heap.size + 1 + 1 := by omega
  have m2 : ¬ w.heap.size + 1 + 1 = w3.heap.size := by omega
  go_upto_region 6 with (fail)
  go_region_held3 (fun w' => w'.cell? ⟨w.heap.size, 0, none⟩ = some (.int .i64 an) ∧ w'.cell? ⟨w.heap.size, 1, none⟩ = some (.int .i64 ad) ∧ w'.cell? ⟨w3.heap.size, 0, none⟩ = some (.int .u64 p2) ∧ w'.cell? ⟨w3.heap.size, 1, none⟩ = some (.int .u64 q2) ∧ w'.cell? ⟨w3.heap.size, 2, none⟩ = some (.bool g2))
    (first | exact ⟨by first | assumption | apply r0, by first | assumption | apply r1, by first | assumption | simp [go_sem], by first | assumption | simp [go_sem], by first | assumption | simp [go_sem]⟩ | go_keep)
    (first
      | (go_at_call 44; refine (HTa.out _).mono ?_; rintro e' w' ⟨rfl, hb⟩; have v0 := kc ⟨w.heap.size, 0, none⟩ (.int .i64 an) hb (by first | assumption | simp [go_sem, *]); have v1 := kc ⟨w.heap.size, 1, none⟩ (.int .i64 ad) hb (by first | assumption | simp [go_sem, *]); have v2 := kc ⟨w.heap.size + 1 + 1, 0, none⟩ (.int .i64 0) hb (by first | assumption | simp [go_sem, *]); have v3 := kc ⟨w.heap.size + 1 + 1, 1, none⟩ (.int .i64 0) hb (by first | assumption | simp [go_sem, *]); have v4 := kc ⟨w3.heap.size, 0, none⟩ (.int .u64 p2) hb (by first | assumption | simp [go_sem, *]); have v5 := kc ⟨w3.heap.size, 1, none⟩ (.int .u64 q2) hb (by first | assumption | simp [go_sem, *]); have v6 := kc ⟨w3.heap.size, 2, none⟩ (.bool g2) hb (by first | assumption | simp [go_sem, *]); have vf0 := kf ⟨w.heap.size + 1 + 1, 0, none⟩ (.int .i64 0) hb (by first | assumption | simp [go_sem, *]) (by first | assumption | simp [go_sem, *]); have vf1 := kf ⟨w.heap.size + 1 + 1, 1, none⟩ (.int .i64 0) hb (by first | assumption | simp [go_sem, *]) (by first | assumption | simp [go_sem, *]); have hX := beyond (w := w) (by first | assumption | exact r6 _ | exact Below.drew (r6 _) | exact below_drewN (r6 _) _ | exact Below.drew (by assumption) | exact below_drewN (by assumption) _) hb)
      | (go_at_call 48; refine (HS.out _).mono ?_; rintro e' w' ⟨rfl, hb⟩; have v0 := kc ⟨w.heap.size, 0, none⟩ (.int .i64 an) hb (by first | assumption | simp [go_sem, *]); have v1 := kc ⟨w.heap.size, 1, none⟩ (.int .i64 ad) hb (by first | assumption | simp [go_sem, *]); have v2 := kc ⟨w.heap.size + 1 + 1, 0, none⟩ (.int .i64 0) hb (by first | assumption | simp [go_sem, *]); have v3 := kc ⟨w.heap.size + 1 + 1, 1, none⟩ (.int .i64 0) hb (by first | assumption | simp [go_sem, *]); have v4 := kc ⟨w3.heap.size, 0, none⟩ (.int .u64 p2) hb (by first | assumption | simp [go_sem, *]); have v5 := kc ⟨w3.heap.size, 1, none⟩ (.int .u64 q2) hb (by first | assumption | simp [go_sem, *]); have v6 := kc ⟨w3.heap.size, 2, none⟩ (.bool g2) hb (by first | assumption | simp [go_sem, *]); have vf0 := kf ⟨w.heap.size + 1 + 1, 0, none⟩ (.int .i64 0) hb (by first | assumption | simp [go_sem, *]) (by first | assumption | simp [go_sem, *]); have vf1 := kf ⟨w.heap.size + 1 + 1, 1, none⟩ (.int .i64 0) hb (by first | assumption | simp [go_sem, *]) (by first | assumption | simp [go_sem, *]); have hX := beyond (w := w) (by first | assumption | exact r6 _ | exact Below.drew (r6 _) | exact below_drewN (r6 _) _ | exact Below.drew (by assumption) | exact below_drewN (by assumption) _) hb))
  all_goals
    go_wp2
    refine bodyPost_ret (v := .tuple #[rv n d, .int .i64 c]) (by simp [results, Tryd.results20, go_sem, *]) rfl ⟨rfl, ?_⟩
    exact set2 (by assumption) (by omega) _ _
def divT (an ad bn bd : Int) : Int × Int × Int := if rightR an ad && rightR bn bd then (if bn = 0 then (0, 0, 21) else canR (an * sgn bd (decide (bn < 0))) (ad * sz bn)) else (0, 0, 7)
theorem rdiv_any (an ad bn bd : Int) (w : World) (ha : I64 an) (hb : I64 ad) (hc : I64 bn) (hd : I64 bd) :
    Calls Tryd.prog 20 #[rv an ad, rv bn bd] w fun e w' => e = .returned (trip (divT an ad bn bd)) ∧ Below w.heap.size w w' := by
  have ka := askR an ad ha hb
  have kb := askR bn bd hc hd
  cases ra : rightR an ad
  · rw [ra] at ka
    have e : divT an ad bn bd = (0, 0, 7) := by simp [divT, ra]
    rw [e]
    exact rdiv_not1 an ad bn bd w ka
  · rw [ra] at ka
    cases rb : rightR bn bd
    · rw [rb] at kb
      have e : divT an ad bn bd = (0, 0, 7) := by simp [divT, rb]
      rw [e]
      exact rdiv_not2 an ad bn bd w ka kb
    · rw [rb] at kb
      by_cases z : bn = 0
      · subst z
        have e : divT an ad 0 bd = (0, 0, 21) := by simp [divT, ra, rb]
        rw [e]
        exact rdiv_zero an ad bd w ka kb
      · obtain ⟨d0, ca⟩ := right_iff.1 ra
        obtain ⟨e0, cb⟩ := right_iff.1 rb
        have p : 0 < sz bn := by unfold sz; split <;> omega
        obtain ⟨l1, l2, l3, l4⟩ := mul_low (sz an) ad bd (sz bn) (sz_nn _) (by omega) d0 p ca (co_symm cb)
        have e : divT an ad bn bd = hR (mNum (sz an) bd ad (sz bn)) (mDen (sz an) bd ad (sz bn)) (decide (an < 0) != decide (bn < 0)) := by
          have e : divT an ad bn bd = canR (an * sgn bd (decide (bn < 0))) (ad * sz bn) := by simp [divT, ra, rb, z]
          rw [e]
          refine can_of (Int.mul_pos d0 p) l2 l3 l1 ?_
          rw [← sgn_mul', l4, sgn_mul', sgn_two, sgn_sz]
        rw [e]
        have s1 := sz_bd an ha.1 ha.2
        have s2 := sz_bd bn hc.1 hc.2
        exact rdiv_yes an ad bn bd _ _ _ _ _ _ _ _ _ w z ka kb (terms_right an ad ha hb ra) (terms_right bn bd hc hd rb) (fun w => multiply_any _ _ _ _ _ _ w ⟨s1.1, s1.2⟩ ⟨d0, by have := hb.2; omega⟩ ⟨by omega, by have := hd.2; omega⟩ ⟨p, s2.2⟩)
/-! ### divide, Floor, Ceil, Frac -/
theorem tdiv_neg (n d : Int) (hd : 0 < d) (h : n.tmod d < 0) : n / d = n.tdiv d - 1 ∧ n % d = n.tmod d + d := by
  have e := Int.mul_tdiv_add_tmod n d
  have b := Int.lt_tmod_of_pos n hd
  refine (Int.ediv_emod_unique hd).2 ⟨?_, by omega, by omega⟩
  rw [Int.mul_sub]
  omega
theorem tdiv_pos (n d : Int) (hd : 0 < d) (h : ¬ n.tmod d < 0) : n / d = n.tdiv d ∧ n % d = n.tmod d := by
  have e := Int.mul_tdiv_add_tmod n d
  have b := Int.tmod_lt_of_pos n hd
  exact (Int.ediv_emod_unique hd).2 ⟨by omega, by omega, by omega⟩
theorem quo_i64 (n d : Int) (hn : I64 n) (hd : 0 < d) : I64 (n / d) := by
  obtain ⟨h0, h1⟩ := hn
  have e := Int.mul_ediv_add_emod n d
  have r0 := Int.emod_nonneg n (show d ≠ 0 by omega)
  have r1 := Int.emod_lt_of_pos n hd
  constructor
  · by_cases c : 0 ≤ n / d
    · omega
    · have : n ≤ n / d := by
        have h := Int.mul_le_mul_of_nonpos_right (show 1 ≤ d by omega) (show n / d ≤ 0 by omega)
        rcases Int.lt_or_le n (n / d + 1) with h | h
        · omega
        · have k : d * (n / d + 1) ≤ 1 * (n / d + 1) := Int.mul_le_mul_of_nonpos_right (by omega) (by omega)
          rw [Int.mul_add] at k
          omega
      omega
  · by_cases c : n / d ≤ 0
    · omega
    · have h : 1 * (n / d) ≤ d * (n / d) := Int.mul_le_mul_of_nonneg_right (by omega) (by omega)
      omega
set_option maxRecDepth 100000 in
theorem divide_any (n d : Int) (w : World) (hn : I64 n) (d0 : 0 < d) (d1 : d ≤ 9223372036854775807) :
    Calls Tryd.prog 76 #[rv n d] w fun e w' => e = .returned (.tuple #[.int .i64 (n / d), .int .i64 (n % d)]) ∧ Below w.heap.size w w' := by
  have z : ¬ d = 0 := by omega
  have q := quo_i64 n d hn d0
  have r0 := Int.emod_nonneg n z
  have r1 := Int.emod_lt_of_pos n d0
  by_cases c : n.tmod d < 0
  · obtain ⟨e1, e2⟩ := tdiv_neg n d d0 c
    have b := Int.lt_tmod_of_pos n d0
    have nn : n < 0 := by
      apply Int.lt_of_not_ge
      intro h
      have := Int.tmod_nonneg d h
      omega
    have qn : n / d < 0 := Int.ediv_neg_of_neg_of_pos nn d0
    have w1 : IntKind.i64.wrap (n.tdiv d) = n.tdiv d := by rw [IntKind.wrap_i64]; have := q.1; have := q.2; omega
    have w2 : IntKind.i64.wrap (n.tmod d) = n.tmod d := by rw [IntKind.wrap_i64]; omega
    have w3 : IntKind.i64.wrap (n.tdiv d - 1) = n / d := by rw [IntKind.wrap_i64]; have := q.1; have := q.2; omega
    have w4 : IntKind.i64.wrap (n.tmod d + d) = n % d := by rw [IntKind.wrap_i64]; omega
    clear q r0 r1 b e1 e2 hn d0 d1 nn qn
    generalize n / d = X at *
    generalize n % d = Y at *
    go_enter Tryd.func76, Tryd.ntmps76
    go_wp2
    have c0 : (w.alloc (.cells #[.int .i64 n, .int .i64 d] 23)).cell? ⟨w.heap.size, 0, none⟩ = some (.int .i64 n) := by simp [go_sem]
    have c1 : (w.alloc (.cells #[.int .i64 n, .int .i64 d] 23)).cell? ⟨w.heap.size, 1, none⟩ = some (.int .i64 d) := by simp [go_sem]
    go_region_held3 (fun w' => w'.cell? ⟨w.heap.size, 0, none⟩ = some (.int .i64 n) ∧ w'.cell? ⟨w.heap.size, 1, none⟩ = some (.int .i64 d))
      (first | exact ⟨by assumption, by assumption⟩ | go_keep) (fail)
    all_goals go_wp2
    all_goals (first | go_region_held3 (fun w' => w'.cell? ⟨w.heap.size, 0, none⟩ = some (.int .i64 n) ∧ w'.cell? ⟨w.heap.size, 1, none⟩ = some (.int .i64 d)) (first | exact ⟨by assumption, by assumption⟩ | go_keep) (fail) | skip)
    all_goals (try go_wp2)
    all_goals
      refine bodyPost_ret (v := .tuple #[.int .i64 X, .int .i64 Y]) (by simp [results, Tryd.results76, go_sem, *]) rfl ⟨rfl, ?_⟩
      first | exact Below.drew (Below.drew (single _ _)) | exact Below.drew (single _ _)
  · obtain ⟨e1, e2⟩ := tdiv_pos n d d0 c
    have w1 : IntKind.i64.wrap (n.tdiv d) = n.tdiv d := by rw [IntKind.wrap_i64]; have := q.1; have := q.2; omega
    have w2 : IntKind.i64.wrap (n.tmod d) = n.tmod d := by rw [IntKind.wrap_i64]; omega
    rw [e1, e2]
    clear q r0 r1 e1 e2 hn d0 d1
    go_enter Tryd.func76, Tryd.ntmps76
    go_wp2
    have c0 : (w.alloc (.cells #[.int .i64 n, .int .i64 d] 23)).cell? ⟨w.heap.size, 0, none⟩ = some (.int .i64 n) := by simp [go_sem]
    have c1 : (w.alloc (.cells #[.int .i64 n, .int .i64 d] 23)).cell? ⟨w.heap.size, 1, none⟩ = some (.int .i64 d) := by simp [go_sem]
    go_region_held3 (fun w' => w'.cell? ⟨w.heap.size, 0, none⟩ = some (.int .i64 n) ∧ w'.cell? ⟨w.heap.size, 1, none⟩ = some (.int .i64 d))
      (first | exact ⟨by assumption, by assumption⟩ | go_keep) (fail)
    all_goals go_wp2
    all_goals (first | go_region_held3 (fun w' => w'.cell? ⟨w.heap.size, 0, none⟩ = some (.int .i64 n) ∧ w'.cell? ⟨w.heap.size, 1, none⟩ = some (.int .i64 d)) (first | exact ⟨by assumption, by assumption⟩ | go_keep) (fail) | skip)
    all_goals (try go_wp2)
    all_goals
      refine bodyPost_ret (v := .tuple #[.int .i64 (n.tdiv d), .int .i64 (n.tmod d)]) (by simp [results, Tryd.results76, go_sem, *]) rfl ⟨rfl, ?_⟩
      first | exact Below.drew (Below.drew (single _ _)) | exact Below.drew (single _ _)
abbrev AskD (n d x y : Int) : Prop := ∀ w, Calls Tryd.prog 76 #[rv n d] w fun e w' => e = .returned (.tuple #[.int .i64 x, .int .i64 y]) ∧ Below w.heap.size w w'
theorem floor_not (n d : Int) (w : World) (HR : Hid (AskR n d false)) : Calls Tryd.prog 59 #[rv n d] w fun e w' => e = .returned (.int .i64 0) ∧ Below w.heap.size w w' := by
  go_enter Tryd.func59, Tryd.ntmps59
  go_wp2_with fail
  refine (HR.out _).mono ?_
  rintro e w1 ⟨rfl, hb⟩
  have hB := beyond (single w _) hb
  go_wp2_with fail
  go_ret
  exact ⟨rfl, hB⟩
theorem floor_yes (n d x y : Int) (w : World) (HR : Hid (AskR n d true)) (HD : Hid (AskD n d x y)) : Calls Tryd.prog 59 #[rv n d] w fun e w' => e = .returned (.int .i64 x) ∧ Below w.heap.size w w' := by
  go_enter Tryd.func59, Tryd.ntmps59
  go_wp2_with fail
  refine (HR.out _).mono ?_
  rintro e w1 ⟨rfl, hb⟩
  have s0 := kc ⟨w.heap.size, 0, none⟩ (.int .i64 n) hb (by first | assumption | simp [go_sem, *])
  have s1 := kc ⟨w.heap.size, 1, none⟩ (.int .i64 d) hb (by first | assumption | simp [go_sem, *])
  have hB := beyond (single w _) hb
  clear hb
  go_wp2_with fail
  refine (HD.out _).mono ?_
  rintro e w2 ⟨rfl, hb⟩
  have hB2 := beyond hB hb
  go_wp2_with fail
  go_ret
  exact ⟨rfl, hB2⟩
theorem askD (n d : Int) (hn : I64 n) (d0 : 0 < d) (d1 : d ≤ 9223372036854775807) : AskD n d (n / d) (n % d) := fun w => divide_any n d w hn d0 d1
def floorT (n d : Int) : Int := if rightR n d then n / d else 0
theorem floor_any (n d : Int) (w : World) (hn : I64 n) (hd : I64 d) : Calls Tryd.prog 59 #[rv n d] w fun e w' => e = .returned (.int .i64 (floorT n d)) ∧ Below w.heap.size w w' := by
  have k := askR n d hn hd
  cases r : rightR n d
  · rw [r] at k
    have e : floorT n d = 0 := by simp [floorT, r]
    rw [e]
    exact floor_not n d w k
  · rw [r] at k
    have e : floorT n d = n / d := by simp [floorT, r]
    rw [e]
    exact floor_yes n d _ _ w k (askD n d hn (right_pos r).1 hd.2)
end Go.Proofs.YtnhopmoboahlgaaDoor
