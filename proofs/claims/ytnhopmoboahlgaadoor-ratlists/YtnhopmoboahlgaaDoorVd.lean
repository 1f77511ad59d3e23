/-
  The contract of rat.multiply.
-/
import Derived.Test.YtnhopmoboahlgaaDoorVb
namespace Go.Proofs.YtnhopmoboahlgaaDoor
open Go.RowKit Go.Shelf
set_option linter.unusedVariables false
theorem newPair {Y w' : World} {T : TypeId} (hb : Below (Y.alloc (.cells #[.int .u64 0, .int .u64 0] T)).heap.size (Y.alloc (.cells #[.int .u64 0, .int .u64 0] T)) w') :
    w'.cell? ⟨Y.heap.size, 0, none⟩ = some (.int .u64 0) ∧ w'.cell? ⟨Y.heap.size, 1, none⟩ = some (.int .u64 0) ∧ w'.frozen? ⟨Y.heap.size, 0, none⟩ = false ∧ w'.frozen? ⟨Y.heap.size, 1, none⟩ = false ∧ Y.heap.size < w'.heap.size ∧ ¬ w'.heap.size = Y.heap.size := by
  have c0 := kc ⟨Y.heap.size, 0, none⟩ (.int .u64 0) hb (new_cell Y _ _ 0)
  have c1 := kc ⟨Y.heap.size, 1, none⟩ (.int .u64 0) hb (new_cell Y _ _ 1)
  have k := World.block_lt_of_cell? _ _ c0
  have k' : Y.heap.size < w'.heap.size := k
  exact ⟨c0, c1, kf ⟨Y.heap.size, 0, none⟩ (.int .u64 0) hb (new_cell Y _ _ 0) (new_frozen Y _ _ 0), kf ⟨Y.heap.size, 1, none⟩ (.int .u64 0) hb (new_cell Y _ _ 1) (new_frozen Y _ _ 1), k', by omega⟩
theorem newPairD {Y w' : World} {T : TypeId} (hb : Below (Y.alloc (.cells #[.int .u64 0, .int .u64 0] T)).drew.heap.size (Y.alloc (.cells #[.int .u64 0, .int .u64 0] T)).drew w') :
    w'.cell? ⟨Y.heap.size, 0, none⟩ = some (.int .u64 0) ∧ w'.cell? ⟨Y.heap.size, 1, none⟩ = some (.int .u64 0) ∧ w'.frozen? ⟨Y.heap.size, 0, none⟩ = false ∧ w'.frozen? ⟨Y.heap.size, 1, none⟩ = false ∧ Y.heap.size < w'.heap.size ∧ ¬ w'.heap.size = Y.heap.size := newPair (undrew hb)
theorem newPairI {Y w' : World} {T : TypeId} (hb : Below (Y.drew.alloc (.cells #[.int .u64 0, .int .u64 0] T)).heap.size (Y.drew.alloc (.cells #[.int .u64 0, .int .u64 0] T)) w') :
    w'.cell? ⟨Y.heap.size, 0, none⟩ = some (.int .u64 0) ∧ w'.cell? ⟨Y.heap.size, 1, none⟩ = some (.int .u64 0) ∧ w'.frozen? ⟨Y.heap.size, 0, none⟩ = false ∧ w'.frozen? ⟨Y.heap.size, 1, none⟩ = false ∧ Y.heap.size < w'.heap.size ∧ ¬ w'.heap.size = Y.heap.size := newPair (Y := Y.drew) hb
set_option maxRecDepth 100000 in
set_option maxHeartbeats 16000000 in
theorem multiply_raw (an ad bn bd g h n1 n2 d1 d2 n d e : Int) (ag bg : Bool) (w : World) (g0 : ¬ g = 0) (h0 : ¬ h = 0)
    (q1 : IntKind.u64.wrap (an.tdiv g) = an / g) (q2 : IntKind.u64.wrap (bn.tdiv h) = bn / h) (q3 : IntKind.u64.wrap (ad.tdiv h) = ad / h) (q4 : IntKind.u64.wrap (bd.tdiv g) = bd / g)
    (HG : Hid (∀ w, Calls Tryd.prog 35 #[.int .u64 an, .int .u64 bd] w fun e w' => e = .returned (.int .u64 g) ∧ ∃ m, w' = w.drewN m))
    (HH : Hid (∀ w, Calls Tryd.prog 35 #[.int .u64 bn, .int .u64 ad] w fun e w' => e = .returned (.int .u64 h) ∧ ∃ m, w' = w.drewN m))
    (HP1 : Hid (∀ w, Calls Tryd.prog 68 #[.int .u64 (an / g), .int .u64 (bn / h)] w fun e w' => e = .returned (.agg #[.int .u64 n1, .int .u64 n2]) ∧ Below w.heap.size w w'))
    (HP2 : Hid (∀ w, Calls Tryd.prog 68 #[.int .u64 (ad / h), .int .u64 (bd / g)] w fun e w' => e = .returned (.agg #[.int .u64 d1, .int .u64 d2]) ∧ Below w.heap.size w w'))
    (HO : Hid (∀ w, Calls Tryd.prog 36 #[.agg #[.int .u64 n1, .int .u64 n2, .bool (ag != bg)], .agg #[.int .u64 d1, .int .u64 d2]] w fun e' w' => e' = .returned (.tuple #[rv n d, .int .i64 e]) ∧ Below w.heap.size w w')) :
    Calls Tryd.prog 48 #[tv an ad ag, tv bn bd bg] w fun e' w' => e' = .returned (.tuple #[rv n d, .int .i64 e]) ∧ Below w.heap.size w w' := by
  have m1 : ¬ w.heap.size = w.heap.size + 1 + 1 := by omega
  have m2 : ¬ w.heap.size + 1 + 1 = w.heap.size := by omega
  go_enter Tryd.func48, Tryd.ntmps48
  go_wp2_with fail
  have HB : Below w.heap.size w (((w.alloc (.cells #[.int .u64 an, .int .u64 ad, .bool ag] 60)).alloc (.cells #[.int .u64 bn, .int .u64 bd, .bool bg] 60)).alloc (.cells #[.int .i64 0, .int .i64 0] 23)) := three w _ _ _
  have c0 : (((w.alloc (.cells #[.int .u64 an, .int .u64 ad, .bool ag] 60)).alloc (.cells #[.int .u64 bn, .int .u64 bd, .bool bg] 60)).alloc (.cells #[.int .i64 0, .int .i64 0] 23)).cell? ⟨w.heap.size, 0, none⟩ = some (.int .u64 an) := by simp [go_sem]
  have c1 : (((w.alloc (.cells #[.int .u64 an, .int .u64 ad, .bool ag] 60)).alloc (.cells #[.int .u64 bn, .int .u64 bd, .bool bg] 60)).alloc (.cells #[.int .i64 0, .int .i64 0] 23)).cell? ⟨w.heap.size, 1, none⟩ = some (.int .u64 ad) := by simp [go_sem]
  have c2 : (((w.alloc (.cells #[.int .u64 an, .int .u64 ad, .bool ag] 60)).alloc (.cells #[.int .u64 bn, .int .u64 bd, .bool bg] 60)).alloc (.cells #[.int .i64 0, .int .i64 0] 23)).cell? ⟨w.heap.size, 2, none⟩ = some (.bool ag) := by simp [go_sem]
  have c3 : (((w.alloc (.cells #[.int .u64 an, .int .u64 ad, .bool ag] 60)).alloc (.cells #[.int .u64 bn, .int .u64 bd, .bool bg] 60)).alloc (.cells #[.int .i64 0, .int .i64 0] 23)).cell? ⟨w.heap.size + 1, 0, none⟩ = some (.int .u64 bn) := by simp [go_sem]
  have c4 : (((w.alloc (.cells #[.int .u64 an, .int .u64 ad, .bool ag] 60)).alloc (.cells #[.int .u64 bn, .int .u64 bd, .bool bg] 60)).alloc (.cells #[.int .i64 0, .int .i64 0] 23)).cell? ⟨w.heap.size + 1, 1, none⟩ = some (.int .u64 bd) := by simp [go_sem]
  have c5 : (((w.alloc (.cells #[.int .u64 an, .int .u64 ad, .bool ag] 60)).alloc (.cells #[.int .u64 bn, .int .u64 bd, .bool bg] 60)).alloc (.cells #[.int .i64 0, .int .i64 0] 23)).cell? ⟨w.heap.size + 1, 2, none⟩ = some (.bool bg) := by simp [go_sem]
  have c6 : (((w.alloc (.cells #[.int .u64 an, .int .u64 ad, .bool ag] 60)).alloc (.cells #[.int .u64 bn, .int .u64 bd, .bool bg] 60)).alloc (.cells #[.int .i64 0, .int .i64 0] 23)).cell? ⟨w.heap.size + 1 + 1, 0, none⟩ = some (.int .i64 0) := by simp [go_sem]
  have c7 : (((w.alloc (.cells #[.int .u64 an, .int .u64 ad, .bool ag] 60)).alloc (.cells #[.int .u64 bn, .int .u64 bd, .bool bg] 60)).alloc (.cells #[.int .i64 0, .int .i64 0] 23)).cell? ⟨w.heap.size + 1 + 1, 1, none⟩ = some (.int .i64 0) := by simp [go_sem]
  have cf0 : (((w.alloc (.cells #[.int .u64 an, .int .u64 ad, .bool ag] 60)).alloc (.cells #[.int .u64 bn, .int .u64 bd, .bool bg] 60)).alloc (.cells #[.int .i64 0, .int .i64 0] 23)).frozen? ⟨w.heap.size + 1 + 1, 0, none⟩ = false := by simp [go_sem]
  have cf1 : (((w.alloc (.cells #[.int .u64 an, .int .u64 ad, .bool ag] 60)).alloc (.cells #[.int .u64 bn, .int .u64 bd, .bool bg] 60)).alloc (.cells #[.int .i64 0, .int .i64 0] 23)).frozen? ⟨w.heap.size + 1 + 1, 1, none⟩ = false := by simp [go_sem]
  go_upto_region 1 with (fail)
  generalize ((w.alloc (.cells #[.int .u64 an, .int .u64 ad, .bool ag] 60)).alloc (.cells #[.int .u64 bn, .int .u64 bd, .bool bg] 60)).alloc (.cells #[.int .i64 0, .int .i64 0] 23) = W at *
  go_cut [6, 7] (fun s t w' => s = .int .u64 g ∧ t = .int .u64 h ∧ w'.cell? ⟨w.heap.size, 0, none⟩ = some (.int .u64 an) ∧ w'.cell? ⟨w.heap.size, 1, none⟩ = some (.int .u64 ad) ∧ w'.cell? ⟨w.heap.size, 2, none⟩ = some (.bool ag) ∧ w'.cell? ⟨w.heap.size + 1, 0, none⟩ = some (.int .u64 bn) ∧ w'.cell? ⟨w.heap.size + 1, 1, none⟩ = some (.int .u64 bd) ∧ w'.cell? ⟨w.heap.size + 1, 2, none⟩ = some (.bool bg) ∧ w'.cell? ⟨w.heap.size + 1 + 1, 0, none⟩ = some (.int .i64 0) ∧ w'.cell? ⟨w.heap.size + 1 + 1, 1, none⟩ = some (.int .i64 0) ∧ w'.frozen? ⟨w.heap.size + 1 + 1, 0, none⟩ = false ∧ w'.frozen? ⟨w.heap.size + 1 + 1, 1, none⟩ = false ∧ Below w.heap.size w w')
  case first =>
    go_region_held3 (fun w' => w'.cell? ⟨w.heap.size, 0, none⟩ = some (.int .u64 an) ∧ w'.cell? ⟨w.heap.size, 1, none⟩ = some (.int .u64 ad) ∧ w'.cell? ⟨w.heap.size, 2, none⟩ = some (.bool ag) ∧ w'.cell? ⟨w.heap.size + 1, 0, none⟩ = some (.int .u64 bn) ∧ w'.cell? ⟨w.heap.size + 1, 1, none⟩ = some (.int .u64 bd) ∧ w'.cell? ⟨w.heap.size + 1, 2, none⟩ = some (.bool bg) ∧ w'.cell? ⟨w.heap.size + 1 + 1, 0, none⟩ = some (.int .i64 0) ∧ w'.cell? ⟨w.heap.size + 1 + 1, 1, none⟩ = some (.int .i64 0) ∧ w'.frozen? ⟨w.heap.size + 1 + 1, 0, none⟩ = false ∧ w'.frozen? ⟨w.heap.size + 1 + 1, 1, none⟩ = false ∧ Below w.heap.size w w')
      (first | exact ⟨by assumption, by assumption, by assumption, by assumption, by assumption, by assumption, by assumption, by assumption, by assumption, by assumption, (by first | assumption | exact Below.drew (by assumption) | exact below_drewN (by assumption) _ | exact Below.alloc (by assumption) (Below.size (by assumption)) _)⟩ | go_keep)
      (first
        | (go_at_call_of 35 an; refine (HG.out _).mono ?_; rintro e w' ⟨rfl, m, rfl⟩; have hX : Below w.heap.size w _ := below_drewN (by first | assumption | exact Below.drew (by assumption) | exact below_drewN (by assumption) _) m)
        | (go_at_call 35; refine (HH.out _).mono ?_; rintro e w' ⟨rfl, m, rfl⟩; have hX : Below w.heap.size w _ := below_drewN (by first | assumption | exact Below.drew (by assumption) | exact below_drewN (by assumption) _) m))
    all_goals go_wp2_with fail
    all_goals go_meet
    all_goals exact ⟨rfl, rfl, by first | assumption | simp [go_sem, *], by first | assumption | simp [go_sem, *], by first | assumption | simp [go_sem, *], by first | assumption | simp [go_sem, *], by first | assumption | simp [go_sem, *], by first | assumption | simp [go_sem, *], by first | assumption | simp [go_sem, *], by first | assumption | simp [go_sem, *], by first | assumption | simp [go_sem, *], by first | assumption | simp [go_sem, *], by first | assumption | exact below_drewN (by assumption) _ | exact Below.drew (by assumption)⟩
  case rest =>
    obtain ⟨rfl, rfl, c0, c1, c2, c3, c4, c5, c6, c7, cf0, cf1, HB⟩ := hcut
    clear HG HH
    have k6 := World.block_lt_of_cell? _ _ c6
    have k5 : w.heap.size + 1 + 1 < wc.heap.size := k6
    have k1 : ¬ wc.heap.size = w.heap.size := by omega
    have k2 : ¬ wc.heap.size = w.heap.size + 1 := by omega
    have k3 : ¬ wc.heap.size = w.heap.size + 1 + 1 := by omega
    clear k6
    go_wp2_with fail
    go_cut [8] (fun t w' => ∃ bk : Nat, t = .pointer (some ⟨bk, 0, none⟩) ∧ w.heap.size + 1 + 1 < bk ∧ w'.cell? ⟨bk, 0, none⟩ = some (.int .u64 n1) ∧ w'.cell? ⟨bk, 1, none⟩ = some (.int .u64 n2) ∧ w'.cell? ⟨w.heap.size, 0, none⟩ = some (.int .u64 an) ∧ w'.cell? ⟨w.heap.size, 1, none⟩ = some (.int .u64 ad) ∧ w'.cell? ⟨w.heap.size, 2, none⟩ = some (.bool ag) ∧ w'.cell? ⟨w.heap.size + 1, 0, none⟩ = some (.int .u64 bn) ∧ w'.cell? ⟨w.heap.size + 1, 1, none⟩ = some (.int .u64 bd) ∧ w'.cell? ⟨w.heap.size + 1, 2, none⟩ = some (.bool bg) ∧ w'.cell? ⟨w.heap.size + 1 + 1, 0, none⟩ = some (.int .i64 0) ∧ w'.cell? ⟨w.heap.size + 1 + 1, 1, none⟩ = some (.int .i64 0) ∧ w'.frozen? ⟨w.heap.size + 1 + 1, 0, none⟩ = false ∧ w'.frozen? ⟨w.heap.size + 1 + 1, 1, none⟩ = false ∧ Below w.heap.size w w')
    case first =>
      go_region_held3 (fun w' => w'.cell? ⟨w.heap.size, 0, none⟩ = some (.int .u64 an) ∧ w'.cell? ⟨w.heap.size, 1, none⟩ = some (.int .u64 ad) ∧ w'.cell? ⟨w.heap.size, 2, none⟩ = some (.bool ag) ∧ w'.cell? ⟨w.heap.size + 1, 0, none⟩ = some (.int .u64 bn) ∧ w'.cell? ⟨w.heap.size + 1, 1, none⟩ = some (.int .u64 bd) ∧ w'.cell? ⟨w.heap.size + 1, 2, none⟩ = some (.bool bg))
        (first | exact ⟨by assumption, by assumption, by assumption, by assumption, by assumption, by assumption⟩ | go_keep)
        (first
          | (go_at_call 68; refine (HP1.out _).mono ?_; rintro e w' ⟨rfl, hb⟩; have s0 := kc ⟨w.heap.size, 0, none⟩ (.int .u64 an) hb (by first | assumption | simp [go_sem, *]); have s1 := kc ⟨w.heap.size, 1, none⟩ (.int .u64 ad) hb (by first | assumption | simp [go_sem, *]); have s2 := kc ⟨w.heap.size, 2, none⟩ (.bool ag) hb (by first | assumption | simp [go_sem, *]); have s3 := kc ⟨w.heap.size + 1, 0, none⟩ (.int .u64 bn) hb (by first | assumption | simp [go_sem, *]); have s4 := kc ⟨w.heap.size + 1, 1, none⟩ (.int .u64 bd) hb (by first | assumption | simp [go_sem, *]); have s5 := kc ⟨w.heap.size + 1, 2, none⟩ (.bool bg) hb (by first | assumption | simp [go_sem, *]); have s6 := kc ⟨w.heap.size + 1 + 1, 0, none⟩ (.int .i64 0) hb (by first | assumption | simp [go_sem, *]); have s7 := kc ⟨w.heap.size + 1 + 1, 1, none⟩ (.int .i64 0) hb (by first | assumption | simp [go_sem, *]); have sf0 := kf ⟨w.heap.size + 1 + 1, 0, none⟩ (.int .i64 0) hb (by first | assumption | simp [go_sem, *]) (by first | assumption | simp [go_sem, *]); have sf1 := kf ⟨w.heap.size + 1 + 1, 1, none⟩ (.int .i64 0) hb (by first | assumption | simp [go_sem, *]) (by first | assumption | simp [go_sem, *]); (first | (with_reducible (have zz := newPair hb); obtain ⟨z0, z1, y0, y1, y2, y3⟩ := zz) | (with_reducible (have zz := newPairD hb); obtain ⟨z0, z1, y0, y1, y2, y3⟩ := zz) | (with_reducible (have zz := newPairI hb); obtain ⟨z0, z1, y0, y1, y2, y3⟩ := zz) | skip); have hX := beyond (w := w) (by first | assumption | exact Below.drew (by assumption) | exact Below.alloc (by assumption) (Below.size (by assumption)) _ | exact Below.alloc (Below.drew (by assumption)) (Below.size (by assumption)) _ | exact Below.drew (Below.alloc (by assumption) (Below.size (by assumption)) _)) hb; have l5 : w.heap.size + 1 + 1 < w'.heap.size := World.block_lt_of_cell? _ _ s6; have l2 : ¬ w'.heap.size = w.heap.size := (by omega); have l3 : ¬ w'.heap.size = w.heap.size + 1 := (by omega); have l4 : ¬ w'.heap.size = w.heap.size + 1 + 1 := (by omega)))
      all_goals go_wp2_with fail
      all_goals go_meet
      all_goals refine ⟨_, rfl, ?_, ?_, ?_, ?_, ?_, ?_, ?_, ?_, ?_, ?_, ?_, ?_, ?_, ?_⟩
      all_goals first | assumption | (simp [go_sem]; done) | (simp [go_sem, *]; done) | exact Below.alloc (by assumption) (Below.size (by assumption)) _ | exact set2 (by assumption) (Nat.le_of_lt (Nat.lt_of_le_of_lt (Nat.le_add_right _ _) (by assumption))) _ _ | skip
    case rest =>
      obtain ⟨bk, rfl, hbk, p0, p1, c0, c1, c2, c3, c4, c5, c6, c7, cf0, cf1, HB⟩ := hcut
      clear HP1
      have b1 : ¬ bk = w.heap.size + 1 + 1 := by omega
      have b2 : ¬ w.heap.size + 1 + 1 = bk := by omega
      go_wp2_with fail
      go_region_held3 (fun w' => w'.cell? ⟨bk, 0, none⟩ = some (.int .u64 n1) ∧ w'.cell? ⟨bk, 1, none⟩ = some (.int .u64 n2) ∧ w'.cell? ⟨w.heap.size, 0, none⟩ = some (.int .u64 an) ∧ w'.cell? ⟨w.heap.size, 1, none⟩ = some (.int .u64 ad) ∧ w'.cell? ⟨w.heap.size, 2, none⟩ = some (.bool ag) ∧ w'.cell? ⟨w.heap.size + 1, 0, none⟩ = some (.int .u64 bn) ∧ w'.cell? ⟨w.heap.size + 1, 1, none⟩ = some (.int .u64 bd) ∧ w'.cell? ⟨w.heap.size + 1, 2, none⟩ = some (.bool bg))
        (first | exact ⟨by assumption, by assumption, by assumption, by assumption, by assumption, by assumption, by assumption, by assumption⟩ | go_keep)
        (first
          | (go_at_call 68; refine (HP2.out _).mono ?_; rintro e w' ⟨rfl, hb⟩; have s0 := kc ⟨w.heap.size, 0, none⟩ (.int .u64 an) hb (by first | assumption | simp [go_sem, *]); have s1 := kc ⟨w.heap.size, 1, none⟩ (.int .u64 ad) hb (by first | assumption | simp [go_sem, *]); have s2 := kc ⟨w.heap.size, 2, none⟩ (.bool ag) hb (by first | assumption | simp [go_sem, *]); have s3 := kc ⟨w.heap.size + 1, 0, none⟩ (.int .u64 bn) hb (by first | assumption | simp [go_sem, *]); have s4 := kc ⟨w.heap.size + 1, 1, none⟩ (.int .u64 bd) hb (by first | assumption | simp [go_sem, *]); have s5 := kc ⟨w.heap.size + 1, 2, none⟩ (.bool bg) hb (by first | assumption | simp [go_sem, *]); have s6 := kc ⟨w.heap.size + 1 + 1, 0, none⟩ (.int .i64 0) hb (by first | assumption | simp [go_sem, *]); have s7 := kc ⟨w.heap.size + 1 + 1, 1, none⟩ (.int .i64 0) hb (by first | assumption | simp [go_sem, *]); have sf0 := kf ⟨w.heap.size + 1 + 1, 0, none⟩ (.int .i64 0) hb (by first | assumption | simp [go_sem, *]) (by first | assumption | simp [go_sem, *]); have sf1 := kf ⟨w.heap.size + 1 + 1, 1, none⟩ (.int .i64 0) hb (by first | assumption | simp [go_sem, *]) (by first | assumption | simp [go_sem, *]); have z0 := kc ⟨bk, 0, none⟩ (.int .u64 n1) hb (by first | assumption | simp [go_sem, *]); have z1 := kc ⟨bk, 1, none⟩ (.int .u64 n2) hb (by first | assumption | simp [go_sem, *]); have hX := beyond (w := w) (by first | assumption | exact Below.drew (by assumption)) hb)
          | (go_at_call 36; refine (HO.out _).mono ?_; rintro e w' ⟨rfl, hb⟩; have s0 := kc ⟨w.heap.size, 0, none⟩ (.int .u64 an) hb (by first | assumption | simp [go_sem, *]); have s1 := kc ⟨w.heap.size, 1, none⟩ (.int .u64 ad) hb (by first | assumption | simp [go_sem, *]); have s2 := kc ⟨w.heap.size, 2, none⟩ (.bool ag) hb (by first | assumption | simp [go_sem, *]); have s3 := kc ⟨w.heap.size + 1, 0, none⟩ (.int .u64 bn) hb (by first | assumption | simp [go_sem, *]); have s4 := kc ⟨w.heap.size + 1, 1, none⟩ (.int .u64 bd) hb (by first | assumption | simp [go_sem, *]); have s5 := kc ⟨w.heap.size + 1, 2, none⟩ (.bool bg) hb (by first | assumption | simp [go_sem, *]); have s6 := kc ⟨w.heap.size + 1 + 1, 0, none⟩ (.int .i64 0) hb (by first | assumption | simp [go_sem, *]); have s7 := kc ⟨w.heap.size + 1 + 1, 1, none⟩ (.int .i64 0) hb (by first | assumption | simp [go_sem, *]); have sf0 := kf ⟨w.heap.size + 1 + 1, 0, none⟩ (.int .i64 0) hb (by first | assumption | simp [go_sem, *]) (by first | assumption | simp [go_sem, *]); have sf1 := kf ⟨w.heap.size + 1 + 1, 1, none⟩ (.int .i64 0) hb (by first | assumption | simp [go_sem, *]) (by first | assumption | simp [go_sem, *]); have z0 := kc ⟨bk, 0, none⟩ (.int .u64 n1) hb (by first | assumption | simp [go_sem, *]); have z1 := kc ⟨bk, 1, none⟩ (.int .u64 n2) hb (by first | assumption | simp [go_sem, *]); have hX := beyond (w := w) (by first | assumption | exact Below.drew (by assumption)) hb))
      all_goals
        go_wp2
        refine bodyPost_ret (v := .tuple #[rv n d, .int .i64 e]) (by simp [results, Tryd.results48, go_sem, *]) rfl ⟨rfl, ?_⟩
        first | exact set2 (by assumption) (by omega) _ _ | assumption
end Go.Proofs.YtnhopmoboahlgaaDoor
