/-
  The contracts of rat.turned and rat.simplest; rat.Between and rat.Print at the fractions that live asks; live.
-/
import Derived.Test.YtmpdicjjaoeblaaDoorVf
import Derived.Test.YtmpdicjjaoeblaaDoorShelf
namespace Go.Proofs.YtmpdicjjaoeblaaDoor
open Go.RowKit Go.Shelf
set_option linter.unusedVariables false
theorem turned_any (n d p r : Int) (g : Bool) (w : World) (hr : IntKind.u64.wrap (n - IntKind.u64.wrap (p * d)) = r) :
    Calls Tryd.prog 50 #[tv n d g, .int .u64 p] w fun e w' => e = .returned (tv d r false) ∧ Below w.heap.size w w' := by
  go_enter Tryd.func50, Tryd.ntmps50
  go_wp2
  refine bodyPost_ret (v := tv d r false) (by simp [results, Tryd.results50, go_sem, *]) rfl ⟨rfl, ?_⟩
  first | exact two w _ _ | exact three w _ _ _ | exact set3 (two w _ _) (by omega) _ _ _
set_option maxRecDepth 100000 in
set_option maxHeartbeats 8000000 in
theorem simplest_stop (ln ld hn hd p p1 a b : Int) (lg hg : Bool) (w : World) (l0 : ¬ ld = 0) (hp : IntKind.u64.wrap (ln.tdiv ld) = p) (hp1 : IntKind.u64.wrap (p + 1) = p1)
    (HP : Hid (∀ w, Calls Tryd.prog 45 #[.int .u64 p1, .int .u64 hd] w fun e w' => e = .returned (.agg #[.int .u64 a, .int .u64 b]) ∧ Below w.heap.size w w'))
    (HN : Hid (∀ w, Calls Tryd.prog 25 #[.int .u64 hn] w fun e w' => e = .returned (.agg #[.int .u64 0, .int .u64 hn]) ∧ Below w.heap.size w w'))
    (HB : Hid (∀ w, Calls Tryd.prog 49 #[.agg #[.int .u64 a, .int .u64 b], .agg #[.int .u64 0, .int .u64 hn]] w fun e w' => e = .returned (.bool true) ∧ Below w.heap.size w w')) :
    Calls Tryd.prog 31 #[tv ln ld lg, tv hn hd hg] w fun e w' => e = .returned (.tuple #[.int .u64 p1, .int .u64 1]) ∧ Below w.heap.size w w' := by
  go_enter Tryd.func31, Tryd.ntmps31
  go_wp2_with fail
  go_cut [20] (fun t w' => t = .bool true ∧ w'.cell? ⟨w.heap.size, 0, none⟩ = some (.int .u64 ln) ∧ w'.cell? ⟨w.heap.size, 1, none⟩ = some (.int .u64 ld) ∧ w'.cell? ⟨w.heap.size, 2, none⟩ = some (.bool lg) ∧ w'.cell? ⟨w.heap.size + 1, 0, none⟩ = some (.int .u64 hn) ∧ w'.cell? ⟨w.heap.size + 1, 1, none⟩ = some (.int .u64 hd) ∧ w'.cell? ⟨w.heap.size + 1, 2, none⟩ = some (.bool hg) ∧ Below w.heap.size w w')
  case first =>
    go_region_held3 (fun w' => w'.cell? ⟨w.heap.size, 0, none⟩ = some (.int .u64 ln) ∧ w'.cell? ⟨w.heap.size, 1, none⟩ = some (.int .u64 ld) ∧ w'.cell? ⟨w.heap.size, 2, none⟩ = some (.bool lg) ∧ w'.cell? ⟨w.heap.size + 1, 0, none⟩ = some (.int .u64 hn) ∧ w'.cell? ⟨w.heap.size + 1, 1, none⟩ = some (.int .u64 hd) ∧ w'.cell? ⟨w.heap.size + 1, 2, none⟩ = some (.bool hg))
      (first | exact ⟨by first | assumption | simp [go_sem], by first | assumption | simp [go_sem], by first | assumption | simp [go_sem], by first | assumption | simp [go_sem], by first | assumption | simp [go_sem], by first | assumption | simp [go_sem]⟩ | go_keep)
      (first
        | (go_at_call 45; refine (HP.out _).mono ?_; rintro e' w' ⟨rfl, hb⟩; have v0 := kc ⟨w.heap.size, 0, none⟩ (.int .u64 ln) hb (by first | assumption | simp [go_sem, *]); have v1 := kc ⟨w.heap.size, 1, none⟩ (.int .u64 ld) hb (by first | assumption | simp [go_sem, *]); have v2 := kc ⟨w.heap.size, 2, none⟩ (.bool lg) hb (by first | assumption | simp [go_sem, *]); have v3 := kc ⟨w.heap.size + 1, 0, none⟩ (.int .u64 hn) hb (by first | assumption | simp [go_sem, *]); have v4 := kc ⟨w.heap.size + 1, 1, none⟩ (.int .u64 hd) hb (by first | assumption | simp [go_sem, *]); have v5 := kc ⟨w.heap.size + 1, 2, none⟩ (.bool hg) hb (by first | assumption | simp [go_sem, *]); have hX := beyond (w := w) (by first | assumption | exact Below.drew (by assumption) | exact below_drewN (by assumption) _ | exact two w _ _ | exact Below.drew (two w _ _) | exact below_drewN (two w _ _) _) hb)
        | (go_at_call 25; refine (HN.out _).mono ?_; rintro e' w' ⟨rfl, hb⟩; have v0 := kc ⟨w.heap.size, 0, none⟩ (.int .u64 ln) hb (by first | assumption | simp [go_sem, *]); have v1 := kc ⟨w.heap.size, 1, none⟩ (.int .u64 ld) hb (by first | assumption | simp [go_sem, *]); have v2 := kc ⟨w.heap.size, 2, none⟩ (.bool lg) hb (by first | assumption | simp [go_sem, *]); have v3 := kc ⟨w.heap.size + 1, 0, none⟩ (.int .u64 hn) hb (by first | assumption | simp [go_sem, *]); have v4 := kc ⟨w.heap.size + 1, 1, none⟩ (.int .u64 hd) hb (by first | assumption | simp [go_sem, *]); have v5 := kc ⟨w.heap.size + 1, 2, none⟩ (.bool hg) hb (by first | assumption | simp [go_sem, *]); have hX := beyond (w := w) (by first | assumption | exact Below.drew (by assumption) | exact below_drewN (by assumption) _ | exact two w _ _ | exact Below.drew (two w _ _) | exact below_drewN (two w _ _) _) hb)
        | (go_at_call 49; refine (HB.out _).mono ?_; rintro e' w' ⟨rfl, hb⟩; have v0 := kc ⟨w.heap.size, 0, none⟩ (.int .u64 ln) hb (by first | assumption | simp [go_sem, *]); have v1 := kc ⟨w.heap.size, 1, none⟩ (.int .u64 ld) hb (by first | assumption | simp [go_sem, *]); have v2 := kc ⟨w.heap.size, 2, none⟩ (.bool lg) hb (by first | assumption | simp [go_sem, *]); have v3 := kc ⟨w.heap.size + 1, 0, none⟩ (.int .u64 hn) hb (by first | assumption | simp [go_sem, *]); have v4 := kc ⟨w.heap.size + 1, 1, none⟩ (.int .u64 hd) hb (by first | assumption | simp [go_sem, *]); have v5 := kc ⟨w.heap.size + 1, 2, none⟩ (.bool hg) hb (by first | assumption | simp [go_sem, *]); have hX := beyond (w := w) (by first | assumption | exact Below.drew (by assumption) | exact below_drewN (by assumption) _ | exact two w _ _ | exact Below.drew (two w _ _) | exact below_drewN (two w _ _) _) hb))
    all_goals go_wp2_with fail
    all_goals go_meet
    all_goals exact ⟨rfl, by assumption, by assumption, by assumption, by assumption, by assumption, by assumption, by assumption⟩
  case rest =>
    obtain ⟨rfl, c0, c1, c2, c3, c4, c5, hB⟩ := hcut
    clear HP HN HB
    go_wp2_with fail
    refine bodyPost_ret (v := .tuple #[.int .u64 p1, .int .u64 1]) (by simp [results, Tryd.results31, go_sem, *]) rfl ⟨rfl, hB⟩
set_option maxRecDepth 100000 in
set_option maxHeartbeats 8000000 in
theorem simplest_step (ln ld hn hd p p1 a b r1 r2 x y z : Int) (lg hg : Bool) (w : World) (l0 : ¬ ld = 0) (hp : IntKind.u64.wrap (ln.tdiv ld) = p) (hp1 : IntKind.u64.wrap (p + 1) = p1) (hz : IntKind.u64.wrap (IntKind.u64.wrap (p * x) + y) = z)
    (HP : Hid (∀ w, Calls Tryd.prog 45 #[.int .u64 p1, .int .u64 hd] w fun e w' => e = .returned (.agg #[.int .u64 a, .int .u64 b]) ∧ Below w.heap.size w w'))
    (HN : Hid (∀ w, Calls Tryd.prog 25 #[.int .u64 hn] w fun e w' => e = .returned (.agg #[.int .u64 0, .int .u64 hn]) ∧ Below w.heap.size w w'))
    (HB : Hid (∀ w, Calls Tryd.prog 49 #[.agg #[.int .u64 a, .int .u64 b], .agg #[.int .u64 0, .int .u64 hn]] w fun e w' => e = .returned (.bool false) ∧ Below w.heap.size w w'))
    (HT1 : Hid (∀ w, Calls Tryd.prog 50 #[tv hn hd hg, .int .u64 p] w fun e w' => e = .returned (tv hd r1 false) ∧ Below w.heap.size w w'))
    (HT2 : Hid (∀ w, Calls Tryd.prog 50 #[tv ln ld lg, .int .u64 p] w fun e w' => e = .returned (tv ld r2 false) ∧ Below w.heap.size w w'))
    (HS : Hid (∀ w, Calls Tryd.prog 31 #[tv hd r1 false, tv ld r2 false] w fun e w' => e = .returned (.tuple #[.int .u64 x, .int .u64 y]) ∧ Below w.heap.size w w')) :
    Calls Tryd.prog 31 #[tv ln ld lg, tv hn hd hg] w fun e w' => e = .returned (.tuple #[.int .u64 z, .int .u64 x]) ∧ Below w.heap.size w w' := by
  go_enter Tryd.func31, Tryd.ntmps31
  go_wp2_with fail
  go_cut [20] (fun t w' => t = .bool false ∧ w'.cell? ⟨w.heap.size, 0, none⟩ = some (.int .u64 ln) ∧ w'.cell? ⟨w.heap.size, 1, none⟩ = some (.int .u64 ld) ∧ w'.cell? ⟨w.heap.size, 2, none⟩ = some (.bool lg) ∧ w'.cell? ⟨w.heap.size + 1, 0, none⟩ = some (.int .u64 hn) ∧ w'.cell? ⟨w.heap.size + 1, 1, none⟩ = some (.int .u64 hd) ∧ w'.cell? ⟨w.heap.size + 1, 2, none⟩ = some (.bool hg) ∧ Below w.heap.size w w')
  case first =>
    go_region_held3 (fun w' => w'.cell? ⟨w.heap.size, 0, none⟩ = some (.int .u64 ln) ∧ w'.cell? ⟨w.heap.size, 1, none⟩ = some (.int .u64 ld) ∧ w'.cell? ⟨w.heap.size, 2, none⟩ = some (.bool lg) ∧ w'.cell? ⟨w.heap.size + 1, 0, none⟩ = some (.int .u64 hn) ∧ w'.cell? ⟨w.heap.size + 1, 1, none⟩ = some (.int .u64 hd) ∧ w'.cell? ⟨w.heap.size + 1, 2, none⟩ = some (.bool hg))
      (first | exact ⟨by first | assumption | simp [go_sem], by first | assumption | simp [go_sem], by first | assumption | simp [go_sem], by first | assumption | simp [go_sem], by first | assumption | simp [go_sem], by first | assumption | simp [go_sem]⟩ | go_keep)
      (first
        | (go_at_call 45; refine (HP.out _).mono ?_; rintro e' w' ⟨rfl, hb⟩; have v0 := kc ⟨w.heap.size, 0, none⟩ (.int .u64 ln) hb (by first | assumption | simp [go_sem, *]); have v1 := kc ⟨w.heap.size, 1, none⟩ (.int .u64 ld) hb (by first | assumption | simp [go_sem, *]); have v2 := kc ⟨w.heap.size, 2, none⟩ (.bool lg) hb (by first | assumption | simp [go_sem, *]); have v3 := kc ⟨w.heap.size + 1, 0, none⟩ (.int .u64 hn) hb (by first | assumption | simp [go_sem, *]); have v4 := kc ⟨w.heap.size + 1, 1, none⟩ (.int .u64 hd) hb (by first | assumption | simp [go_sem, *]); have v5 := kc ⟨w.heap.size + 1, 2, none⟩ (.bool hg) hb (by first | assumption | simp [go_sem, *]); have hX := beyond (w := w) (by first | assumption | exact Below.drew (by assumption) | exact below_drewN (by assumption) _ | exact two w _ _ | exact Below.drew (two w _ _) | exact below_drewN (two w _ _) _) hb)
        | (go_at_call 25; refine (HN.out _).mono ?_; rintro e' w' ⟨rfl, hb⟩; have v0 := kc ⟨w.heap.size, 0, none⟩ (.int .u64 ln) hb (by first | assumption | simp [go_sem, *]); have v1 := kc ⟨w.heap.size, 1, none⟩ (.int .u64 ld) hb (by first | assumption | simp [go_sem, *]); have v2 := kc ⟨w.heap.size, 2, none⟩ (.bool lg) hb (by first | assumption | simp [go_sem, *]); have v3 := kc ⟨w.heap.size + 1, 0, none⟩ (.int .u64 hn) hb (by first | assumption | simp [go_sem, *]); have v4 := kc ⟨w.heap.size + 1, 1, none⟩ (.int .u64 hd) hb (by first | assumption | simp [go_sem, *]); have v5 := kc ⟨w.heap.size + 1, 2, none⟩ (.bool hg) hb (by first | assumption | simp [go_sem, *]); have hX := beyond (w := w) (by first | assumption | exact Below.drew (by assumption) | exact below_drewN (by assumption) _ | exact two w _ _ | exact Below.drew (two w _ _) | exact below_drewN (two w _ _) _) hb)
        | (go_at_call 49; refine (HB.out _).mono ?_; rintro e' w' ⟨rfl, hb⟩; have v0 := kc ⟨w.heap.size, 0, none⟩ (.int .u64 ln) hb (by first | assumption | simp [go_sem, *]); have v1 := kc ⟨w.heap.size, 1, none⟩ (.int .u64 ld) hb (by first | assumption | simp [go_sem, *]); have v2 := kc ⟨w.heap.size, 2, none⟩ (.bool lg) hb (by first | assumption | simp [go_sem, *]); have v3 := kc ⟨w.heap.size + 1, 0, none⟩ (.int .u64 hn) hb (by first | assumption | simp [go_sem, *]); have v4 := kc ⟨w.heap.size + 1, 1, none⟩ (.int .u64 hd) hb (by first | assumption | simp [go_sem, *]); have v5 := kc ⟨w.heap.size + 1, 2, none⟩ (.bool hg) hb (by first | assumption | simp [go_sem, *]); have hX := beyond (w := w) (by first | assumption | exact Below.drew (by assumption) | exact below_drewN (by assumption) _ | exact two w _ _ | exact Below.drew (two w _ _) | exact below_drewN (two w _ _) _) hb))
    all_goals go_wp2_with fail
    all_goals go_meet
    all_goals exact ⟨rfl, by assumption, by assumption, by assumption, by assumption, by assumption, by assumption, by assumption⟩
  case rest =>
    obtain ⟨rfl, c0, c1, c2, c3, c4, c5, hB⟩ := hcut
    clear HP HN HB
    go_wp2_with fail
    go_region_held3 (fun w' => w'.cell? ⟨w.heap.size, 0, none⟩ = some (.int .u64 ln) ∧ w'.cell? ⟨w.heap.size, 1, none⟩ = some (.int .u64 ld) ∧ w'.cell? ⟨w.heap.size, 2, none⟩ = some (.bool lg) ∧ w'.cell? ⟨w.heap.size + 1, 0, none⟩ = some (.int .u64 hn) ∧ w'.cell? ⟨w.heap.size + 1, 1, none⟩ = some (.int .u64 hd) ∧ w'.cell? ⟨w.heap.size + 1, 2, none⟩ = some (.bool hg))
      (first | exact ⟨by first | assumption | simp [go_sem], by first | assumption | simp [go_sem], by first | assumption | simp [go_sem], by first | assumption | simp [go_sem], by first | assumption | simp [go_sem], by first | assumption | simp [go_sem]⟩ | go_keep)
      (first
        | (go_at_call_of 50 hn; refine (HT1.out _).mono ?_; rintro e' w' ⟨rfl, hb⟩; have v0 := kc ⟨w.heap.size, 0, none⟩ (.int .u64 ln) hb (by first | assumption | simp [go_sem, *]); have v1 := kc ⟨w.heap.size, 1, none⟩ (.int .u64 ld) hb (by first | assumption | simp [go_sem, *]); have v2 := kc ⟨w.heap.size, 2, none⟩ (.bool lg) hb (by first | assumption | simp [go_sem, *]); have v3 := kc ⟨w.heap.size + 1, 0, none⟩ (.int .u64 hn) hb (by first | assumption | simp [go_sem, *]); have v4 := kc ⟨w.heap.size + 1, 1, none⟩ (.int .u64 hd) hb (by first | assumption | simp [go_sem, *]); have v5 := kc ⟨w.heap.size + 1, 2, none⟩ (.bool hg) hb (by first | assumption | simp [go_sem, *]); have hX := beyond (w := w) (by first | assumption | exact Below.drew (by assumption) | exact below_drewN (by assumption) _ | exact two w _ _ | exact Below.drew (two w _ _) | exact below_drewN (two w _ _) _) hb)
        | (go_at_call 50; refine (HT2.out _).mono ?_; rintro e' w' ⟨rfl, hb⟩; have v0 := kc ⟨w.heap.size, 0, none⟩ (.int .u64 ln) hb (by first | assumption | simp [go_sem, *]); have v1 := kc ⟨w.heap.size, 1, none⟩ (.int .u64 ld) hb (by first | assumption | simp [go_sem, *]); have v2 := kc ⟨w.heap.size, 2, none⟩ (.bool lg) hb (by first | assumption | simp [go_sem, *]); have v3 := kc ⟨w.heap.size + 1, 0, none⟩ (.int .u64 hn) hb (by first | assumption | simp [go_sem, *]); have v4 := kc ⟨w.heap.size + 1, 1, none⟩ (.int .u64 hd) hb (by first | assumption | simp [go_sem, *]); have v5 := kc ⟨w.heap.size + 1, 2, none⟩ (.bool hg) hb (by first | assumption | simp [go_sem, *]); have hX := beyond (w := w) (by first | assumption | exact Below.drew (by assumption) | exact below_drewN (by assumption) _ | exact two w _ _ | exact Below.drew (two w _ _) | exact below_drewN (two w _ _) _) hb)
        | (go_at_call 31; refine (HS.out _).mono ?_; rintro e' w' ⟨rfl, hb⟩; have v0 := kc ⟨w.heap.size, 0, none⟩ (.int .u64 ln) hb (by first | assumption | simp [go_sem, *]); have v1 := kc ⟨w.heap.size, 1, none⟩ (.int .u64 ld) hb (by first | assumption | simp [go_sem, *]); have v2 := kc ⟨w.heap.size, 2, none⟩ (.bool lg) hb (by first | assumption | simp [go_sem, *]); have v3 := kc ⟨w.heap.size + 1, 0, none⟩ (.int .u64 hn) hb (by first | assumption | simp [go_sem, *]); have v4 := kc ⟨w.heap.size + 1, 1, none⟩ (.int .u64 hd) hb (by first | assumption | simp [go_sem, *]); have v5 := kc ⟨w.heap.size + 1, 2, none⟩ (.bool hg) hb (by first | assumption | simp [go_sem, *]); have hX := beyond (w := w) (by first | assumption | exact Below.drew (by assumption) | exact below_drewN (by assumption) _ | exact two w _ _ | exact Below.drew (two w _ _) | exact below_drewN (two w _ _) _) hb))
    all_goals
      go_wp2
      refine bodyPost_ret (v := .tuple #[.int .u64 z, .int .u64 x]) (by simp [results, Tryd.results31, go_sem, *]) rfl ⟨rfl, ?_⟩
      assumption
end Go.Proofs.YtmpdicjjaoeblaaDoor
