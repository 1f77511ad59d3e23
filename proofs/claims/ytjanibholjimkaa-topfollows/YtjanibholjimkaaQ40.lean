/-
  The contract of rat.sum: the sum of two fractions by their terms, in lowest terms, or that it cannot be held.
-/
import Derived.Test.YtjanibholjimkaaQ39
import Derived.Deep.DeepCutAuto
namespace Go.Proofs.Ytjanibholjimkaa
open Go.RowKit Go.Shelf
set_option linter.unusedVariables false

theorem beyA {X w1 w2 : World} {o : Obj} (h1 : Below (X.alloc o).heap.size (X.alloc o) w1) (h2 : Below w1.heap.size w1 w2) : Below (X.alloc o).heap.size (X.alloc o) w2 := beyond h1 h2
theorem new_cell (X : World) (cs : Array Value) (T : TypeId) (i : Nat) : (X.alloc (.cells cs T)).cell? ⟨X.heap.size, i, none⟩ = cs[i]? := by simp [go_sem]
theorem new_frozen (X : World) (cs : Array Value) (T : TypeId) (i : Nat) : (X.alloc (.cells cs T)).frozen? ⟨X.heap.size, i, none⟩ = false := by simp [go_sem]
set_option maxRecDepth 100000 in
set_option maxHeartbeats 16000000 in
theorem sum_raw (an ad bn bd g x1 x2 y1 y2 p q o1 o2 rest h l1 l2 jk d1 d2 n d e : Int) (ag bg ng : Bool) (w : World) (g0 : ¬ g = 0) (h0 : ¬ h = 0)
    (qa : IntKind.u64.wrap (ad.tdiv g) = ad / g) (qb : IntKind.u64.wrap (bd.tdiv g) = bd / g) (qh : IntKind.u64.wrap (bd.tdiv h) = bd / h)
    (HG : Hid (∀ w, Calls Try.prog 22 #[.int .u64 ad, .int .u64 bd] w fun e w' => e = .returned (.int .u64 g) ∧ ∃ m, w' = w.drewN m))
    (HT1 : Hid (∀ w, Calls Try.prog 43 #[tv an ad ag, .int .u64 (bd / g)] w fun e w' => e = .returned (.agg #[.int .u64 x1, .int .u64 x2, .bool ag]) ∧ Below w.heap.size w w'))
    (HT2 : Hid (∀ w, Calls Try.prog 43 #[tv bn bd bg, .int .u64 (ad / g)] w fun e w' => e = .returned (.agg #[.int .u64 y1, .int .u64 y2, .bool bg]) ∧ Below w.heap.size w w'))
    (HA : Hid (∀ w, Calls Try.prog 44 #[.agg #[.int .u64 x1, .int .u64 x2, .bool ag], .agg #[.int .u64 y1, .int .u64 y2, .bool bg]] w fun e w' => e = .returned (.agg #[.int .u64 p, .int .u64 q, .bool ng]) ∧ Below w.heap.size w w'))
    (HO1 : Hid (∀ w, Calls Try.prog 45 #[.agg #[.int .u64 p, .int .u64 q], .int .u64 g] w fun e w' => e = .returned (.tuple #[.agg #[.int .u64 o1, .int .u64 o2], .int .u64 rest]) ∧ Below w.heap.size w w'))
    (HG2 : Hid (∀ w, Calls Try.prog 22 #[.int .u64 rest, .int .u64 g] w fun e w' => e = .returned (.int .u64 h) ∧ ∃ m, w' = w.drewN m))
    (HO2 : Hid (∀ w, Calls Try.prog 45 #[.agg #[.int .u64 p, .int .u64 q], .int .u64 h] w fun e w' => e = .returned (.tuple #[.agg #[.int .u64 l1, .int .u64 l2], .int .u64 jk]) ∧ Below w.heap.size w w'))
    (HP : Hid (∀ w, Calls Try.prog 47 #[.int .u64 (ad / g), .int .u64 (bd / h)] w fun e w' => e = .returned (.agg #[.int .u64 d1, .int .u64 d2]) ∧ Below w.heap.size w w'))
    (HH : Hid (∀ w, Calls Try.prog 46 #[.agg #[.int .u64 l1, .int .u64 l2, .bool ng], .agg #[.int .u64 d1, .int .u64 d2]] w fun e' w' => e' = .returned (.tuple #[rv n d, .int .i64 e]) ∧ Below w.heap.size w w')) :
    Calls Try.prog 24 #[tv an ad ag, tv bn bd bg] w fun e' w' => e' = .returned (.tuple #[rv n d, .int .i64 e]) ∧ Below w.heap.size w w' := by
  have n1 : ¬ w.heap.size = w.heap.size + 1 + 1 := by omega
  have n2 : ¬ w.heap.size + 1 + 1 = w.heap.size := by omega
  go_enter Try.func24, Try.ntmps24
  go_wp2_with fail
  refine (HG.out _).mono ?_
  rintro e' w' ⟨rfl, m, rfl⟩
  generalize hW0 : ((w.alloc (.cells #[.int .u64 an, .int .u64 ad, .bool ag] 59)).alloc (.cells #[.int .u64 bn, .int .u64 bd, .bool bg] 59)).alloc (.cells #[.int .i64 0, .int .i64 0] 30) = W0
  have hs0 : W0.heap.size = w.heap.size + 3 := by rw [← hW0]; simp
  have hB0 : Below w.heap.size w W0 := by rw [← hW0]; exact three w _ _ _
  have a0 : W0.cell? ⟨w.heap.size, 0, none⟩ = some (.int .u64 an) := by rw [← hW0]; simp [go_sem]
  have a1 : W0.cell? ⟨w.heap.size, 1, none⟩ = some (.int .u64 ad) := by rw [← hW0]; simp [go_sem]
  have a2 : W0.cell? ⟨w.heap.size, 2, none⟩ = some (.bool ag) := by rw [← hW0]; simp [go_sem]
  have a3 : W0.cell? ⟨w.heap.size + 1, 0, none⟩ = some (.int .u64 bn) := by rw [← hW0]; simp [go_sem]
  have a4 : W0.cell? ⟨w.heap.size + 1, 1, none⟩ = some (.int .u64 bd) := by rw [← hW0]; simp [go_sem]
  have a5 : W0.cell? ⟨w.heap.size + 1, 2, none⟩ = some (.bool bg) := by rw [← hW0]; simp [go_sem]
  have a6 : W0.cell? ⟨w.heap.size + 1 + 1, 0, none⟩ = some (.int .i64 0) := by rw [← hW0]; simp [go_sem]
  have a7 : W0.cell? ⟨w.heap.size + 1 + 1, 1, none⟩ = some (.int .i64 0) := by rw [← hW0]; simp [go_sem]
  have f0 : W0.frozen? ⟨w.heap.size + 1 + 1, 0, none⟩ = false := by rw [← hW0]; simp [go_sem]
  have f1 : W0.frozen? ⟨w.heap.size + 1 + 1, 1, none⟩ = false := by rw [← hW0]; simp [go_sem]
  clear hW0
  have HS0 := hideR hs0
  clear hs0
  have rc : ∀ (w' : World), Below W0.heap.size W0 w' → ∀ b o, b < W0.heap.size → w'.cell? ⟨b, o, none⟩ = W0.cell? ⟨b, o, none⟩ := fun w' h => (bcell h).1
  have rf : ∀ (w' : World), Below W0.heap.size W0 w' → ∀ b o, b < W0.heap.size → w'.frozen? ⟨b, o, none⟩ = W0.frozen? ⟨b, o, none⟩ := fun w' h => (bcell h).2
  have k0 : w.heap.size < W0.heap.size := by have := HS0.out; omega
  have k1 : w.heap.size + 1 < W0.heap.size := by have := HS0.out; omega
  have k2 : w.heap.size + 1 + 1 < W0.heap.size := by have := HS0.out; omega
  have nc0 : ∀ k, ((W0.drewN k).alloc (.cells #[.int .u64 0, .int .u64 0, .bool false] 102)).cell? ⟨W0.heap.size, 0, none⟩ = some (.int .u64 0) := fun k => new_cell (W0.drewN k) #[.int .u64 0, .int .u64 0, .bool false] _ 0
  have nf0 : ∀ k, ((W0.drewN k).alloc (.cells #[.int .u64 0, .int .u64 0, .bool false] 102)).frozen? ⟨W0.heap.size, 0, none⟩ = false := fun k => new_frozen (W0.drewN k) #[.int .u64 0, .int .u64 0, .bool false] _ 0
  have nc1 : ∀ k, ((W0.drewN k).alloc (.cells #[.int .u64 0, .int .u64 0, .bool false] 102)).cell? ⟨W0.heap.size, 1, none⟩ = some (.int .u64 0) := fun k => new_cell (W0.drewN k) #[.int .u64 0, .int .u64 0, .bool false] _ 1
  have nf1 : ∀ k, ((W0.drewN k).alloc (.cells #[.int .u64 0, .int .u64 0, .bool false] 102)).frozen? ⟨W0.heap.size, 1, none⟩ = false := fun k => new_frozen (W0.drewN k) #[.int .u64 0, .int .u64 0, .bool false] _ 1
  have nc2 : ∀ k, ((W0.drewN k).alloc (.cells #[.int .u64 0, .int .u64 0, .bool false] 102)).cell? ⟨W0.heap.size, 2, none⟩ = some (.bool false) := fun k => new_cell (W0.drewN k) #[.int .u64 0, .int .u64 0, .bool false] _ 2
  have nf2 : ∀ k, ((W0.drewN k).alloc (.cells #[.int .u64 0, .int .u64 0, .bool false] 102)).frozen? ⟨W0.heap.size, 2, none⟩ = false := fun k => new_frozen (W0.drewN k) #[.int .u64 0, .int .u64 0, .bool false] _ 2
  go_upto_region 2 with (fail)
  go_cut [7] (fun t w' => ∃ bk : Nat, t = .pointer (some ⟨bk, 0, none⟩) ∧ W0.heap.size ≤ bk ∧ w'.cell? ⟨bk, 0, none⟩ = some (.int .u64 p) ∧ w'.cell? ⟨bk, 1, none⟩ = some (.int .u64 q) ∧ w'.cell? ⟨bk, 2, none⟩ = some (.bool ng) ∧ Below W0.heap.size W0 w')
  case first =>
    go_region_held3 (fun w' => Below W0.heap.size W0 w')
      (first | assumption | exact set3 (by assumption) (Nat.le_refl _) _ _ _ | exact below_drewN (Below.refl _ _) _ | exact below_drewN (Below.alloc (Below.refl _ _) (Nat.le_refl _) _) _ | exact Below.drew (below_drewN (Below.refl _ _) _) | exact Below.alloc (by assumption) (Below.size (by assumption)) _ | exact Below.alloc (below_drewN (Below.refl _ _) _) (Nat.le_refl _) _ | exact ((Below.setCell (by assumption) (Below.size (by assumption)) _).setCell (Below.size (by assumption)) _).setCell (Below.size (by assumption)) _ | exact (((Below.alloc (by assumption) (Below.size (by assumption)) _).setCell (Below.size (by assumption)) _).setCell (Below.size (by assumption)) _).setCell (Below.size (by assumption)) _)
      (first
        | (go_at_call_of 43 (bd / g); refine (HT1.out _).mono ?_; rintro e w' ⟨rfl, hb⟩; have hW : Below W0.heap.size W0 w' := beyond (w := W0) (by first | assumption | exact Below.alloc (by assumption) (Below.size (by assumption)) _ | exact below_drewN (Below.refl _ _) _ | exact below_drewN (Below.alloc (Below.refl _ _) (Nat.le_refl _) _) _ | exact Below.alloc (below_drewN (Below.refl _ _) _) (Nat.le_refl _) _) hb; first | (have hA := beyR (by assumption) hb; have hc := (bcell hA).1; have hf := (bcell hA).2) | (have hA := beyD (by assumption) hb; have hc := (bcell hA).1; have hf := (bcell hA).2) | (have hA := beyA (by assumption) hb; have hc := (bcell hA).1; have hf := (bcell hA).2) | (have hc := (bcell hb).1; have hf := (bcell hb).2))
        | (go_at_call 43; refine (HT2.out _).mono ?_; rintro e w' ⟨rfl, hb⟩; have hW : Below W0.heap.size W0 w' := beyond (w := W0) (by first | assumption | exact Below.alloc (by assumption) (Below.size (by assumption)) _ | exact below_drewN (Below.refl _ _) _ | exact below_drewN (Below.alloc (Below.refl _ _) (Nat.le_refl _) _) _ | exact Below.alloc (below_drewN (Below.refl _ _) _) (Nat.le_refl _) _) hb; first | (have hA := beyR (by assumption) hb; have hc := (bcell hA).1; have hf := (bcell hA).2) | (have hA := beyD (by assumption) hb; have hc := (bcell hA).1; have hf := (bcell hA).2) | (have hA := beyA (by assumption) hb; have hc := (bcell hA).1; have hf := (bcell hA).2) | (have hc := (bcell hb).1; have hf := (bcell hb).2))
        | (go_at_call 44; refine (HA.out _).mono ?_; rintro e w' ⟨rfl, hb⟩; have hW : Below W0.heap.size W0 w' := beyond (w := W0) (by first | assumption | exact Below.alloc (by assumption) (Below.size (by assumption)) _ | exact below_drewN (Below.refl _ _) _ | exact below_drewN (Below.alloc (Below.refl _ _) (Nat.le_refl _) _) _ | exact Below.alloc (below_drewN (Below.refl _ _) _) (Nat.le_refl _) _) hb; first | (have hA := beyR (by assumption) hb; have hc := (bcell hA).1; have hf := (bcell hA).2) | (have hA := beyD (by assumption) hb; have hc := (bcell hA).1; have hf := (bcell hA).2) | (have hA := beyA (by assumption) hb; have hc := (bcell hA).1; have hf := (bcell hA).2) | (have hc := (bcell hb).1; have hf := (bcell hb).2)))
    all_goals go_wp2_with fail
    all_goals go_meet
    all_goals refine ⟨_, rfl, ?_, ?_, ?_, ?_, ?_⟩
    all_goals first | assumption | (apply Below.size; assumption) | exact Nat.le_refl _ | (simp [go_sem]; done) | (go_simp; done) | (simp [go_sem, *]; done) | skip
  case rest =>
    obtain ⟨bk, rfl, hbk, p0, p1, p2, hW⟩ := hcut
    go_wp2_with fail
    refine (HO1.out _).mono ?_
    rintro e' w1 ⟨rfl, hb⟩
    have q0 := kc ⟨bk, 0, none⟩ _ hb p0
    have q1 := kc ⟨bk, 1, none⟩ _ hb p1
    have q2 := kc ⟨bk, 2, none⟩ _ hb p2
    have hW1 := beyond hW hb
    clear p0 p1 p2 hW hb
    have r0 : ∀ O, (w1.alloc O).cell? ⟨bk, 0, none⟩ = some (.int .u64 p) := fun O => kc _ _ (single _ _) q0
    have r1 : ∀ O, (w1.alloc O).cell? ⟨bk, 1, none⟩ = some (.int .u64 q) := fun O => kc _ _ (single _ _) q1
    have r2 : ∀ O, (w1.alloc O).cell? ⟨bk, 2, none⟩ = some (.bool ng) := fun O => kc _ _ (single _ _) q2
    go_wp2_with fail
    refine (HG2.out _).mono ?_
    rintro e' w' ⟨rfl, m2, rfl⟩
    go_wp2_with fail
    refine (HO2.out _).mono ?_
    rintro e' w2 ⟨rfl, hb⟩
    have hW2 := beyond (below_drewN (beyond hW1 (single _ _)) _) hb
    have u0 := kc ⟨bk, 2, none⟩ (.bool ng) hb (by simp [go_sem, *])
    clear q0 q1 q2 r0 r1 r2 hW1 hb
    have u1 : ∀ O, (w2.alloc O).cell? ⟨bk, 2, none⟩ = some (.bool ng) := fun O => kc _ _ (single _ _) u0
    have v1 := kc ⟨w.heap.size, 1, none⟩ _ hW2 a1
    have v2 := kc ⟨w.heap.size + 1, 1, none⟩ _ hW2 a4
    have v3 : ∀ O, (w2.alloc O).cell? ⟨w.heap.size, 1, none⟩ = some (.int .u64 ad) := fun O => kc _ _ (single _ _) v1
    have v4 : ∀ O, (w2.alloc O).cell? ⟨w.heap.size + 1, 1, none⟩ = some (.int .u64 bd) := fun O => kc _ _ (single _ _) v2
    have w3 : ∀ O, (w2.alloc O).cell? ⟨w.heap.size + 1 + 1, 0, none⟩ = some (.int .i64 0) := fun O => kc _ _ (beyond hW2 (single _ _)) a6
    have w4 : ∀ O, (w2.alloc O).cell? ⟨w.heap.size + 1 + 1, 1, none⟩ = some (.int .i64 0) := fun O => kc _ _ (beyond hW2 (single _ _)) a7
    have w5 : ∀ O, (w2.alloc O).frozen? ⟨w.heap.size + 1 + 1, 0, none⟩ = false := fun O => kf _ _ (beyond hW2 (single _ _)) a6 f0
    have w6 : ∀ O, (w2.alloc O).frozen? ⟨w.heap.size + 1 + 1, 1, none⟩ = false := fun O => kf _ _ (beyond hW2 (single _ _)) a7 f1
    have sz2 := hW2.size
    have b1 : ¬ bk = w.heap.size + 1 + 1 := by have := HS0.out; omega
    have b2 : ¬ w.heap.size + 1 + 1 = bk := by omega
    have b3 : ¬ w2.heap.size = w.heap.size + 1 + 1 := by omega
    have b4 : ¬ w.heap.size + 1 + 1 = w2.heap.size := by omega
    clear a0 a1 a2 a3 a4 a5 a6 a7 f0 f1 rc rf nc0 nc1 nc2 nf0 nf1 nf2 v1 v2 u0
    go_upto_region 6 with (fail)
    go_region_held3 (fun w' => w'.cell? ⟨bk, 2, none⟩ = some (.bool ng) ∧ w'.cell? ⟨w.heap.size, 1, none⟩ = some (.int .u64 ad) ∧ w'.cell? ⟨w.heap.size + 1, 1, none⟩ = some (.int .u64 bd) ∧ w'.cell? ⟨w2.heap.size, 0, none⟩ = some (.int .u64 l1) ∧ w'.cell? ⟨w2.heap.size, 1, none⟩ = some (.int .u64 l2))
      (first | exact ⟨by assumption, by assumption, by assumption, by assumption, by assumption⟩ | go_keep)
      (first
        | (go_at_call 47; refine (HP.out _).mono ?_; rintro e' w' ⟨rfl, hb⟩; have s0 := kc ⟨bk, 2, none⟩ (.bool ng) hb (by first | assumption | simp [go_sem, *]); have s1 := kc ⟨w.heap.size, 1, none⟩ (.int .u64 ad) hb (by first | assumption | simp [go_sem, *]); have s2 := kc ⟨w.heap.size + 1, 1, none⟩ (.int .u64 bd) hb (by first | assumption | simp [go_sem, *]); have s3 := kc ⟨w2.heap.size, 0, none⟩ (.int .u64 l1) hb (by first | assumption | simp [go_sem, *]); have s4 := kc ⟨w2.heap.size, 1, none⟩ (.int .u64 l2) hb (by first | assumption | simp [go_sem, *]); have s5 := kc ⟨w.heap.size + 1 + 1, 0, none⟩ (.int .i64 0) hb (by first | assumption | simp [go_sem, *]); have s6 := kc ⟨w.heap.size + 1 + 1, 1, none⟩ (.int .i64 0) hb (by first | assumption | simp [go_sem, *]); have t0 := kf ⟨w.heap.size + 1 + 1, 0, none⟩ (.int .i64 0) hb (by first | assumption | simp [go_sem, *]) (by first | assumption | simp [go_sem, *]); have t1 := kf ⟨w.heap.size + 1 + 1, 1, none⟩ (.int .i64 0) hb (by first | assumption | simp [go_sem, *]) (by first | assumption | simp [go_sem, *]); have hX := beyond (by first | assumption | exact Below.drew (beyond hW2 (single _ _)) | exact beyond hW2 (single _ _)) hb)
        | (go_at_call 46; refine (HH.out _).mono ?_; rintro e' w' ⟨rfl, hb⟩; have s0 := kc ⟨bk, 2, none⟩ (.bool ng) hb (by first | assumption | simp [go_sem, *]); have s1 := kc ⟨w.heap.size, 1, none⟩ (.int .u64 ad) hb (by first | assumption | simp [go_sem, *]); have s2 := kc ⟨w.heap.size + 1, 1, none⟩ (.int .u64 bd) hb (by first | assumption | simp [go_sem, *]); have s3 := kc ⟨w2.heap.size, 0, none⟩ (.int .u64 l1) hb (by first | assumption | simp [go_sem, *]); have s4 := kc ⟨w2.heap.size, 1, none⟩ (.int .u64 l2) hb (by first | assumption | simp [go_sem, *]); have s5 := kc ⟨w.heap.size + 1 + 1, 0, none⟩ (.int .i64 0) hb (by first | assumption | simp [go_sem, *]); have s6 := kc ⟨w.heap.size + 1 + 1, 1, none⟩ (.int .i64 0) hb (by first | assumption | simp [go_sem, *]); have t0 := kf ⟨w.heap.size + 1 + 1, 0, none⟩ (.int .i64 0) hb (by first | assumption | simp [go_sem, *]) (by first | assumption | simp [go_sem, *]); have t1 := kf ⟨w.heap.size + 1 + 1, 1, none⟩ (.int .i64 0) hb (by first | assumption | simp [go_sem, *]) (by first | assumption | simp [go_sem, *]); have hX := beyond (by first | assumption | exact Below.drew (beyond hW2 (single _ _)) | exact beyond hW2 (single _ _)) hb))
    all_goals
      go_wp2
      refine bodyPost_ret (v := .tuple #[rv n d, .int .i64 e]) (by simp [results, Try.results24, go_sem, *]) rfl ⟨rfl, ?_⟩
      exact set2 (beyond hB0 (by assumption)) (by omega) _ _
end Go.Proofs.Ytjanibholjimkaa
