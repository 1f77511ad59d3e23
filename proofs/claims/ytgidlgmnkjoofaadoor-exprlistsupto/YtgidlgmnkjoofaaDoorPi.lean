/-
  expr.answer, joined, valueOf.
-/
import Derived.Test.YtgidlgmnkjoofaaDoorPh
import Derived.Test.YtgidlgmnkjoofaaDoorPe
namespace Go.Proofs.YtgidlgmnkjoofaaDoor
open Go.RowKit
set_option linter.unusedVariables false
def ansV (b : Bool) : Val := match b with | true => (1, false) | false => (0, false)
set_option maxRecDepth 100000 in
theorem answer_any (b : Bool) (w : World) : Calls Tryd.prog 80 #[.bool b] w fun e w' => e = .returned (valV (ansV b)) ∧ Below w.heap.size w w' := by
  cases b
  all_goals
    go_enter Tryd.func80, Tryd.ntmps80
    go_wp2_with fail
    exact bodyPost_ret (by simp [results, Tryd.results80, go_sem, ansV]) rfl ⟨rfl, single _ _⟩
/-- The value of an operator of two. -/
def joinV (o : Nat) (a b : Int) : Val :=
  if o = 4 then holdV (a + b) else if o = 5 then holdV (a - b) else if o = 6 then holdV (a * b) else if o = 8 then ansV (decide (a < b)) else if o = 9 then ansV (decide (a ≤ b)) else if o = 10 then ansV (a == b) else if o = 11 then ansV (a != b) else (b, false)
set_option maxRecDepth 100000 in
theorem joined_any (o : Nat) (ho : o < 256) (a b : Int) (ha : inR a) (hb : inR b) (w : World) : Calls Tryd.prog 72 #[.int .u8 (o : Int), .int .i64 a, .int .i64 b] w fun e w' => e = .returned (valV (joinV o a b)) ∧ Below w.heap.size w w' := by
  unfold joinV
  by_cases c4 : o = 4
  · subst c4
    rw [if_pos rfl]
    have F := hideR (fun W => sum_any a b ha hb W)
    generalize holdV (a + b) = v at *
    obtain ⟨x, y⟩ := v
    have S := hideR (single w)
    clear ha hb
    go_enter Tryd.func72, Tryd.ntmps72
    go_wp2_with fail
    refine (F.out _).mono ?_
    rintro e w1 ⟨rfl, hb1⟩
    clear F
    obtain ⟨n0, n1, g0, g1, z0, z1⟩ := newP hb1
    have HB := hideR (beyond (S.out _) hb1)
    clear hb1
    go_wp2_with fail
    exact bodyPost_ret (v := valV (x, y)) (by simp [results, Tryd.results72, go_sem, *]) rfl ⟨rfl, set2 HB.out (Nat.le_refl _) _ _⟩
  rw [if_neg c4]
  have i4 : ((o : Int) == 4) = false := by simp; omega
  by_cases c5 : o = 5
  · subst c5
    rw [if_pos rfl]
    have F := hideR (fun W => diff_any a b ha hb W)
    generalize holdV (a - b) = v at *
    obtain ⟨x, y⟩ := v
    have S := hideR (single w)
    clear ha hb
    go_enter Tryd.func72, Tryd.ntmps72
    go_wp2_with fail
    refine (F.out _).mono ?_
    rintro e w1 ⟨rfl, hb1⟩
    clear F
    obtain ⟨n0, n1, g0, g1, z0, z1⟩ := newP hb1
    have HB := hideR (beyond (S.out _) hb1)
    clear hb1
    go_wp2_with fail
    exact bodyPost_ret (v := valV (x, y)) (by simp [results, Tryd.results72, go_sem, *]) rfl ⟨rfl, set2 HB.out (Nat.le_refl _) _ _⟩
  rw [if_neg c5]
  have i5 : ((o : Int) == 5) = false := by simp; omega
  by_cases c6 : o = 6
  · subst c6
    rw [if_pos rfl]
    have F := hideR (fun W => prod_any a b ha hb W)
    generalize holdV (a * b) = v at *
    obtain ⟨x, y⟩ := v
    have S := hideR (single w)
    clear ha hb
    go_enter Tryd.func72, Tryd.ntmps72
    go_wp2_with fail
    refine (F.out _).mono ?_
    rintro e w1 ⟨rfl, hb1⟩
    clear F
    obtain ⟨n0, n1, g0, g1, z0, z1⟩ := newP hb1
    have HB := hideR (beyond (S.out _) hb1)
    clear hb1
    go_wp2_with fail
    exact bodyPost_ret (v := valV (x, y)) (by simp [results, Tryd.results72, go_sem, *]) rfl ⟨rfl, set2 HB.out (Nat.le_refl _) _ _⟩
  rw [if_neg c6]
  have i6 : ((o : Int) == 6) = false := by simp; omega
  by_cases c8 : o = 8
  · subst c8
    rw [if_pos rfl]
    have F := hideR (fun W => answer_any (decide (a < b)) W)
    generalize ansV (decide (a < b)) = v at *
    obtain ⟨x, y⟩ := v
    have S := hideR (single w)
    clear ha hb
    go_enter Tryd.func72, Tryd.ntmps72
    go_wp2_with fail
    refine (F.out _).mono ?_
    rintro e w1 ⟨rfl, hb1⟩
    clear F
    obtain ⟨n0, n1, g0, g1, z0, z1⟩ := newP hb1
    have HB := hideR (beyond (S.out _) hb1)
    clear hb1
    go_wp2_with fail
    exact bodyPost_ret (v := valV (x, y)) (by simp [results, Tryd.results72, go_sem, *]) rfl ⟨rfl, set2 HB.out (Nat.le_refl _) _ _⟩
  rw [if_neg c8]
  have i8 : ((o : Int) == 8) = false := by simp; omega
  by_cases c9 : o = 9
  · subst c9
    rw [if_pos rfl]
    have F := hideR (fun W => answer_any (decide (a ≤ b)) W)
    generalize ansV (decide (a ≤ b)) = v at *
    obtain ⟨x, y⟩ := v
    have S := hideR (single w)
    clear ha hb
    go_enter Tryd.func72, Tryd.ntmps72
    go_wp2_with fail
    refine (F.out _).mono ?_
    rintro e w1 ⟨rfl, hb1⟩
    clear F
    obtain ⟨n0, n1, g0, g1, z0, z1⟩ := newP hb1
    have HB := hideR (beyond (S.out _) hb1)
    clear hb1
    go_wp2_with fail
    exact bodyPost_ret (v := valV (x, y)) (by simp [results, Tryd.results72, go_sem, *]) rfl ⟨rfl, set2 HB.out (Nat.le_refl _) _ _⟩
  rw [if_neg c9]
  have i9 : ((o : Int) == 9) = false := by simp; omega
  by_cases c10 : o = 10
  · subst c10
    rw [if_pos rfl]
    have F := hideR (fun W => answer_any (a == b) W)
    generalize ansV (a == b) = v at *
    obtain ⟨x, y⟩ := v
    have S := hideR (single w)
    clear ha hb
    go_enter Tryd.func72, Tryd.ntmps72
    go_wp2_with fail
    refine (F.out _).mono ?_
    rintro e w1 ⟨rfl, hb1⟩
    clear F
    obtain ⟨n0, n1, g0, g1, z0, z1⟩ := newP hb1
    have HB := hideR (beyond (S.out _) hb1)
    clear hb1
    go_wp2_with fail
    exact bodyPost_ret (v := valV (x, y)) (by simp [results, Tryd.results72, go_sem, *]) rfl ⟨rfl, set2 HB.out (Nat.le_refl _) _ _⟩
  rw [if_neg c10]
  have i10 : ((o : Int) == 10) = false := by simp; omega
  by_cases c11 : o = 11
  · subst c11
    rw [if_pos rfl]
    have F := hideR (fun W => answer_any (a != b) W)
    generalize ansV (a != b) = v at *
    obtain ⟨x, y⟩ := v
    have S := hideR (single w)
    clear ha hb
    go_enter Tryd.func72, Tryd.ntmps72
    go_wp2_with fail
    refine (F.out _).mono ?_
    rintro e w1 ⟨rfl, hb1⟩
    clear F
    obtain ⟨n0, n1, g0, g1, z0, z1⟩ := newP hb1
    have HB := hideR (beyond (S.out _) hb1)
    clear hb1
    go_wp2_with fail
    exact bodyPost_ret (v := valV (x, y)) (by simp [results, Tryd.results72, go_sem, *]) rfl ⟨rfl, set2 HB.out (Nat.le_refl _) _ _⟩
  rw [if_neg c11]
  have i11 : ((o : Int) == 11) = false := by simp; omega
  go_enter Tryd.func72, Tryd.ntmps72
  go_wp2_with fail
  exact bodyPost_ret (by simp [results, Tryd.results72, go_sem]) rfl ⟨rfl, single _ _⟩
/-- The value of a node over its parts' values. -/
def valueJ (vs : List Int) (n : Node) (ps : List Val) : Val :=
  if n.1 = 1 then (n.2, false) else if n.1 = 2 then (vs.getD n.2.toNat 0, false) else if n.1 = 7 then (1, false) else
  if (ps.getD 0 (0, false)).2 = true then ps.getD 0 (0, false) else if n.1 = 13 ∧ ¬ (ps.getD 0 (0, false)).1 = 1 then ps.getD 0 (0, false) else if n.1 = 14 ∧ (ps.getD 0 (0, false)).1 = 1 then ps.getD 0 (0, false) else
  if n.1 = 3 then holdV (0 - (ps.getD 0 (0, false)).1) else if n.1 = 12 then (wrap64 (1 - (ps.getD 0 (0, false)).1), false) else
  if (ps.getD 1 (0, false)).2 = true then ps.getD 1 (0, false) else joinV n.1 (ps.getD 0 (0, false)).1 (ps.getD 1 (0, false)).1
abbrev IntC (x : Int) : List Value := [.int .i64 x]
set_option maxRecDepth 100000 in
theorem leaf1 (N : Int) (vv pp : Value) (w : World) : Calls Tryd.prog 57 #[nodeV (1, N), vv, pp] w fun e w' => e = .returned (valV (N, false)) ∧ Below w.heap.size w w' := by
  go_enter Tryd.func57, Tryd.ntmps57
  go_wp2_with fail
  exact bodyPost_ret (v := valV (N, false)) (by simp [results, Tryd.results57, go_sem, *]) rfl ⟨rfl, (by repeat (first | exact Below.refl _ _ | refine Below.alloc ?_ (by simp) _ | refine Below.setCell ?_ (by simp) _))⟩
set_option maxRecDepth 100000 in
theorem leaf7 (N : Int) (vv pp : Value) (w : World) : Calls Tryd.prog 57 #[nodeV (7, N), vv, pp] w fun e w' => e = .returned (valV (1, false)) ∧ Below w.heap.size w w' := by
  go_enter Tryd.func57, Tryd.ntmps57
  go_wp2_with fail
  exact bodyPost_ret (v := valV (1, false)) (by simp [results, Tryd.results57, go_sem, *]) rfl ⟨rfl, (by repeat (first | exact Below.refl _ _ | refine Below.alloc ?_ (by simp) _ | refine Below.setCell ?_ (by simp) _))⟩
set_option maxRecDepth 100000 in
theorem leaf2 (N : Nat) (n cap b off : Nat) (x : Int) (h : N < n) (pp : Value) (w : World) (hc : w.cell? ⟨b, off + N, none⟩ = some (.int .i64 x)) : Calls Tryd.prog 57 #[nodeV (2, (N : Int)), .slice (some ⟨b, off, none⟩) n cap, pp] w fun e w' => e = .returned (valV (x, false)) ∧ Below w.heap.size w w' := by
  have h1 : (N : Int) < (n : Int) := by omega
  have hl : b < w.heap.size := World.block_lt_of_cell? _ _ hc
  have hl0 : ¬ b = w.heap.size := by omega
  have hl1 : ¬ b = w.heap.size + 1 := by omega
  go_enter Tryd.func57, Tryd.ntmps57
  go_wp2_with fail
  exact bodyPost_ret (v := valV (x, false)) (by simp [results, Tryd.results57, go_sem, *]) rfl ⟨rfl, (by repeat (first | exact Below.refl _ _ | refine Below.alloc ?_ (by simp) _ | refine Below.setCell ?_ (by simp) _))⟩
set_option maxRecDepth 100000 in
set_option maxHeartbeats 1000000 in
theorem vLeft (o : Nat) (N : Int) (vv : Value) (m cap b off : Nat) (x : Int) (i1 : ((o : Int) == 1) = false) (i2 : ((o : Int) == 2) = false) (i7 : ((o : Int) == 7) = false) (hm : 0 < m) (w : World) (hc0 : w.cell? ⟨b, off, none⟩ = some (.int .i64 x)) (hc1 : w.cell? ⟨b, off + 1, none⟩ = some (.bool true)) : Calls Tryd.prog 57 #[.agg #[.int .u8 (o : Int), .int .i64 N], vv, .slice (some ⟨b, off, none⟩) m cap] w fun e w' => e = .returned (valV (x, true)) ∧ Below w.heap.size w w' := by
  have hl : b < w.heap.size := World.block_lt_of_cell? _ _ hc0
  have hl0 : ¬ b = w.heap.size := by omega
  have hl1 : ¬ b = w.heap.size + 1 := by omega
  have hl2 : ¬ b = w.heap.size + 1 + 1 := by omega
  have hl3 : b < w.heap.size + 1 := by omega
  have hl4 : b < w.heap.size + 1 + 1 := by omega
  have m0 : (0 : Int) < (m : Int) := by omega
  go_enter Tryd.func57, Tryd.ntmps57
  go_wp2_with fail
  exact bodyPost_ret (v := valV (x, true)) (by simp [results, Tryd.results57, go_sem, *]) rfl ⟨rfl, (by repeat (first | exact Below.refl _ _ | refine Below.alloc ?_ (by first | (simp; done) | (simp; omega)) _ | refine Below.setCell ?_ (by first | (simp; done) | (simp; omega)) _))⟩
set_option maxRecDepth 100000 in
set_option maxHeartbeats 1000000 in
theorem vAndNo (N : Int) (vv : Value) (m cap b off : Nat) (x : Int) (hx : (x == 1) = false) (hm : 0 < m) (w : World) (hc0 : w.cell? ⟨b, off, none⟩ = some (.int .i64 x)) (hc1 : w.cell? ⟨b, off + 1, none⟩ = some (.bool false)) : Calls Tryd.prog 57 #[.agg #[.int .u8 13, .int .i64 N], vv, .slice (some ⟨b, off, none⟩) m cap] w fun e w' => e = .returned (valV (x, false)) ∧ Below w.heap.size w w' := by
  have hl : b < w.heap.size := World.block_lt_of_cell? _ _ hc0
  have hl0 : ¬ b = w.heap.size := by omega
  have hl1 : ¬ b = w.heap.size + 1 := by omega
  have hl2 : ¬ b = w.heap.size + 1 + 1 := by omega
  have hl3 : b < w.heap.size + 1 := by omega
  have hl4 : b < w.heap.size + 1 + 1 := by omega
  have m0 : (0 : Int) < (m : Int) := by omega
  go_enter Tryd.func57, Tryd.ntmps57
  go_wp2_with fail
  exact bodyPost_ret (v := valV (x, false)) (by simp [results, Tryd.results57, go_sem, *]) rfl ⟨rfl, (by repeat (first | exact Below.refl _ _ | refine Below.alloc ?_ (by first | (simp; done) | (simp; omega)) _ | refine Below.setCell ?_ (by first | (simp; done) | (simp; omega)) _))⟩
set_option maxRecDepth 100000 in
set_option maxHeartbeats 1000000 in
theorem vOrYes (N : Int) (vv : Value) (m cap b off : Nat) (hm : 0 < m) (w : World) (hc0 : w.cell? ⟨b, off, none⟩ = some (.int .i64 1)) (hc1 : w.cell? ⟨b, off + 1, none⟩ = some (.bool false)) : Calls Tryd.prog 57 #[.agg #[.int .u8 14, .int .i64 N], vv, .slice (some ⟨b, off, none⟩) m cap] w fun e w' => e = .returned (valV (1, false)) ∧ Below w.heap.size w w' := by
  have hl : b < w.heap.size := World.block_lt_of_cell? _ _ hc0
  have hl0 : ¬ b = w.heap.size := by omega
  have hl1 : ¬ b = w.heap.size + 1 := by omega
  have hl2 : ¬ b = w.heap.size + 1 + 1 := by omega
  have hl3 : b < w.heap.size + 1 := by omega
  have hl4 : b < w.heap.size + 1 + 1 := by omega
  have m0 : (0 : Int) < (m : Int) := by omega
  go_enter Tryd.func57, Tryd.ntmps57
  go_wp2_with fail
  exact bodyPost_ret (v := valV (1, false)) (by simp [results, Tryd.results57, go_sem, *]) rfl ⟨rfl, (by repeat (first | exact Below.refl _ _ | refine Below.alloc ?_ (by first | (simp; done) | (simp; omega)) _ | refine Below.setCell ?_ (by first | (simp; done) | (simp; omega)) _))⟩
set_option maxRecDepth 100000 in
set_option maxHeartbeats 1000000 in
theorem vNot (N : Int) (vv : Value) (m cap b off : Nat) (x : Int) (hm : 0 < m) (w : World) (hc0 : w.cell? ⟨b, off, none⟩ = some (.int .i64 x)) (hc1 : w.cell? ⟨b, off + 1, none⟩ = some (.bool false)) : Calls Tryd.prog 57 #[.agg #[.int .u8 12, .int .i64 N], vv, .slice (some ⟨b, off, none⟩) m cap] w fun e w' => e = .returned (valV (wrap64 (1 - x), false)) ∧ Below w.heap.size w w' := by
  have hl : b < w.heap.size := World.block_lt_of_cell? _ _ hc0
  have hl0 : ¬ b = w.heap.size := by omega
  have hl1 : ¬ b = w.heap.size + 1 := by omega
  have hl2 : ¬ b = w.heap.size + 1 + 1 := by omega
  have hl3 : b < w.heap.size + 1 := by omega
  have hl4 : b < w.heap.size + 1 + 1 := by omega
  have m0 : (0 : Int) < (m : Int) := by omega
  go_enter Tryd.func57, Tryd.ntmps57
  go_wp2_with fail
  exact bodyPost_ret (v := valV (wrap64 (1 - x), false)) (by simp [results, Tryd.results57, go_sem, *]) rfl ⟨rfl, (by repeat (first | exact Below.refl _ _ | refine Below.alloc ?_ (by first | (simp; done) | (simp; omega)) _ | refine Below.setCell ?_ (by first | (simp; done) | (simp; omega)) _))⟩
set_option maxRecDepth 100000 in
set_option maxHeartbeats 1000000 in
theorem vNeg (N : Int) (vv : Value) (m cap b off : Nat) (x : Int) (hx : inR x) (hm : 0 < m) (w : World) (hc0 : w.cell? ⟨b, off, none⟩ = some (.int .i64 x)) (hc1 : w.cell? ⟨b, off + 1, none⟩ = some (.bool false)) : Calls Tryd.prog 57 #[.agg #[.int .u8 3, .int .i64 N], vv, .slice (some ⟨b, off, none⟩) m cap] w fun e w' => e = .returned (valV (holdV (0 - x))) ∧ Below w.heap.size w w' := by
  have hl : b < w.heap.size := World.block_lt_of_cell? _ _ hc0
  have hl0 : ¬ b = w.heap.size := by omega
  have hl1 : ¬ b = w.heap.size + 1 := by omega
  have hl2 : ¬ b = w.heap.size + 1 + 1 := by omega
  have hl3 : b < w.heap.size + 1 := by omega
  have hl4 : b < w.heap.size + 1 + 1 := by omega
  have m0 : (0 : Int) < (m : Int) := by omega
  have F := hideR (fun W => diff_any 0 x (by unfold inR; omega) hx W)
  clear hx
  generalize (holdV (0 - x)) = v at *
  obtain ⟨x3, y3⟩ := v
  go_enter Tryd.func57, Tryd.ntmps57
  go_wp2_with fail
  refine (F.out _).mono ?_
  rintro e w1 ⟨rfl, hb⟩
  clear F
  have R0 := kc ⟨w.heap.size + 1, 0, none⟩ (.int .i64 0) hb (by simp [go_sem])
  have R1 := kc ⟨w.heap.size + 1, 1, none⟩ (.bool false) hb (by simp [go_sem])
  have G0 := kf ⟨w.heap.size + 1, 0, none⟩ (.int .i64 0) hb (by simp [go_sem]) (by simp [go_sem])
  have G1 := kf ⟨w.heap.size + 1, 1, none⟩ (.bool false) hb (by simp [go_sem]) (by simp [go_sem])
  have HB := hideR (beyond (w := w) (by repeat (first | exact Below.refl _ _ | refine Below.alloc ?_ (by first | (simp; done) | (simp; omega)) _ | refine Below.setCell ?_ (by first | (simp; done) | (simp; omega)) _)) hb)
  clear hb
  go_wp2_with fail
  exact bodyPost_ret (v := valV (x3, y3)) (by simp [results, Tryd.results57, go_sem, *]) rfl ⟨rfl, set2 HB.out (Nat.le_succ _) _ _⟩
set_option maxRecDepth 100000 in
set_option maxHeartbeats 1000000 in
theorem vRightNo (o : Nat) (N : Int) (vv : Value) (m cap b off : Nat) (x x2 : Int) (i1 : ((o : Int) == 1) = false) (i2 : ((o : Int) == 2) = false) (i7 : ((o : Int) == 7) = false) (i13 : ((o : Int) == 13) = false) (i14 : ((o : Int) == 14) = false) (i3 : ((o : Int) == 3) = false) (i12 : ((o : Int) == 12) = false) (hm : 1 < m) (w : World) (hc0 : w.cell? ⟨b, off, none⟩ = some (.int .i64 x)) (hc1 : w.cell? ⟨b, off + 1, none⟩ = some (.bool false)) (hc2 : w.cell? ⟨b, off + 2, none⟩ = some (.int .i64 x2)) (hc3 : w.cell? ⟨b, off + 3, none⟩ = some (.bool true)) : Calls Tryd.prog 57 #[.agg #[.int .u8 (o : Int), .int .i64 N], vv, .slice (some ⟨b, off, none⟩) m cap] w fun e w' => e = .returned (valV (x2, true)) ∧ Below w.heap.size w w' := by
  have hl : b < w.heap.size := World.block_lt_of_cell? _ _ hc0
  have hl0 : ¬ b = w.heap.size := by omega
  have hl1 : ¬ b = w.heap.size + 1 := by omega
  have hl2 : ¬ b = w.heap.size + 1 + 1 := by omega
  have hl3 : b < w.heap.size + 1 := by omega
  have hl4 : b < w.heap.size + 1 + 1 := by omega
  have m0 : (0 : Int) < (m : Int) := by omega
  have m1 : (1 : Int) < (m : Int) := by omega
  have hc4 : w.cell? ⟨b, off + 2 + 1, none⟩ = some (.bool true) := hc3
  go_enter Tryd.func57, Tryd.ntmps57
  go_wp2_with fail
  exact bodyPost_ret (v := valV (x2, true)) (by simp [results, Tryd.results57, go_sem, *]) rfl ⟨rfl, (by repeat (first | exact Below.refl _ _ | refine Below.alloc ?_ (by first | (simp; done) | (simp; omega)) _ | refine Below.setCell ?_ (by first | (simp; done) | (simp; omega)) _))⟩
set_option maxRecDepth 100000 in
set_option maxHeartbeats 1000000 in
theorem vRightAndNo (N : Int) (vv : Value) (m cap b off : Nat) (x2 : Int) (hm : 1 < m) (w : World) (hc0 : w.cell? ⟨b, off, none⟩ = some (.int .i64 1)) (hc1 : w.cell? ⟨b, off + 1, none⟩ = some (.bool false)) (hc2 : w.cell? ⟨b, off + 2, none⟩ = some (.int .i64 x2)) (hc3 : w.cell? ⟨b, off + 3, none⟩ = some (.bool true)) : Calls Tryd.prog 57 #[.agg #[.int .u8 13, .int .i64 N], vv, .slice (some ⟨b, off, none⟩) m cap] w fun e w' => e = .returned (valV (x2, true)) ∧ Below w.heap.size w w' := by
  have hl : b < w.heap.size := World.block_lt_of_cell? _ _ hc0
  have hl0 : ¬ b = w.heap.size := by omega
  have hl1 : ¬ b = w.heap.size + 1 := by omega
  have hl2 : ¬ b = w.heap.size + 1 + 1 := by omega
  have hl3 : b < w.heap.size + 1 := by omega
  have hl4 : b < w.heap.size + 1 + 1 := by omega
  have m0 : (0 : Int) < (m : Int) := by omega
  have m1 : (1 : Int) < (m : Int) := by omega
  have hc4 : w.cell? ⟨b, off + 2 + 1, none⟩ = some (.bool true) := hc3
  go_enter Tryd.func57, Tryd.ntmps57
  go_wp2_with fail
  exact bodyPost_ret (v := valV (x2, true)) (by simp [results, Tryd.results57, go_sem, *]) rfl ⟨rfl, (by repeat (first | exact Below.refl _ _ | refine Below.alloc ?_ (by first | (simp; done) | (simp; omega)) _ | refine Below.setCell ?_ (by first | (simp; done) | (simp; omega)) _))⟩
set_option maxRecDepth 100000 in
set_option maxHeartbeats 1000000 in
theorem vRightOrNo (N : Int) (vv : Value) (m cap b off : Nat) (x x2 : Int) (hx : (x == 1) = false) (hm : 1 < m) (w : World) (hc0 : w.cell? ⟨b, off, none⟩ = some (.int .i64 x)) (hc1 : w.cell? ⟨b, off + 1, none⟩ = some (.bool false)) (hc2 : w.cell? ⟨b, off + 2, none⟩ = some (.int .i64 x2)) (hc3 : w.cell? ⟨b, off + 3, none⟩ = some (.bool true)) : Calls Tryd.prog 57 #[.agg #[.int .u8 14, .int .i64 N], vv, .slice (some ⟨b, off, none⟩) m cap] w fun e w' => e = .returned (valV (x2, true)) ∧ Below w.heap.size w w' := by
  have hl : b < w.heap.size := World.block_lt_of_cell? _ _ hc0
  have hl0 : ¬ b = w.heap.size := by omega
  have hl1 : ¬ b = w.heap.size + 1 := by omega
  have hl2 : ¬ b = w.heap.size + 1 + 1 := by omega
  have hl3 : b < w.heap.size + 1 := by omega
  have hl4 : b < w.heap.size + 1 + 1 := by omega
  have m0 : (0 : Int) < (m : Int) := by omega
  have m1 : (1 : Int) < (m : Int) := by omega
  have hc4 : w.cell? ⟨b, off + 2 + 1, none⟩ = some (.bool true) := hc3
  go_enter Tryd.func57, Tryd.ntmps57
  go_wp2_with fail
  exact bodyPost_ret (v := valV (x2, true)) (by simp [results, Tryd.results57, go_sem, *]) rfl ⟨rfl, (by repeat (first | exact Below.refl _ _ | refine Below.alloc ?_ (by first | (simp; done) | (simp; omega)) _ | refine Below.setCell ?_ (by first | (simp; done) | (simp; omega)) _))⟩
set_option maxRecDepth 100000 in
set_option maxHeartbeats 1000000 in
theorem vJoin (o : Nat) (N : Int) (vv : Value) (m cap b off : Nat) (x x2 : Int) (ho : o < 256) (i1 : ((o : Int) == 1) = false) (i2 : ((o : Int) == 2) = false) (i7 : ((o : Int) == 7) = false) (i13 : ((o : Int) == 13) = false) (i14 : ((o : Int) == 14) = false) (i3 : ((o : Int) == 3) = false) (i12 : ((o : Int) == 12) = false) (hx : inR x) (hx2 : inR x2) (hm : 1 < m) (w : World) (hc0 : w.cell? ⟨b, off, none⟩ = some (.int .i64 x)) (hc1 : w.cell? ⟨b, off + 1, none⟩ = some (.bool false)) (hc2 : w.cell? ⟨b, off + 2, none⟩ = some (.int .i64 x2)) (hc3 : w.cell? ⟨b, off + 3, none⟩ = some (.bool false)) : Calls Tryd.prog 57 #[.agg #[.int .u8 (o : Int), .int .i64 N], vv, .slice (some ⟨b, off, none⟩) m cap] w fun e w' => e = .returned (valV (joinV o x x2)) ∧ Below w.heap.size w w' := by
  have hl : b < w.heap.size := World.block_lt_of_cell? _ _ hc0
  have hl0 : ¬ b = w.heap.size := by omega
  have hl1 : ¬ b = w.heap.size + 1 := by omega
  have hl2 : ¬ b = w.heap.size + 1 + 1 := by omega
  have hl3 : b < w.heap.size + 1 := by omega
  have hl4 : b < w.heap.size + 1 + 1 := by omega
  have m0 : (0 : Int) < (m : Int) := by omega
  have m1 : (1 : Int) < (m : Int) := by omega
  have hc4 : w.cell? ⟨b, off + 2 + 1, none⟩ = some (.bool false) := hc3
  have F := hideR (fun W => joined_any o ho x x2 hx hx2 W)
  clear hx hx2
  generalize (joinV o x x2) = v at *
  obtain ⟨x3, y3⟩ := v
  go_enter Tryd.func57, Tryd.ntmps57
  go_wp2_with fail
  have k0 : (((w.alloc (.cells #[.int .u8 (o : Int), .int .i64 N] 54)).alloc (.cells #[.int .i64 0, .bool false] 119)).alloc (.cells #[.int .i64 x, .bool false] 119)).cell? ⟨w.heap.size, 0, none⟩ = some (.int .u8 (o : Int)) := by simp [go_sem]
  have k1 : (((w.alloc (.cells #[.int .u8 (o : Int), .int .i64 N] 54)).alloc (.cells #[.int .i64 0, .bool false] 119)).alloc (.cells #[.int .i64 x, .bool false] 119)).cell? ⟨w.heap.size + 1 + 1, 0, none⟩ = some (.int .i64 x) := by simp [go_sem]
  have k2 : (((w.alloc (.cells #[.int .u8 (o : Int), .int .i64 N] 54)).alloc (.cells #[.int .i64 0, .bool false] 119)).alloc (.cells #[.int .i64 x, .bool false] 119)).cell? ⟨b, off + 2, none⟩ = some (.int .i64 x2) := by simp [go_sem, *]
  have k3 : (((w.alloc (.cells #[.int .u8 (o : Int), .int .i64 N] 54)).alloc (.cells #[.int .i64 0, .bool false] 119)).alloc (.cells #[.int .i64 x, .bool false] 119)).cell? ⟨w.heap.size + 1, 0, none⟩ = some (.int .i64 0) := by simp [go_sem]
  have k4 : (((w.alloc (.cells #[.int .u8 (o : Int), .int .i64 N] 54)).alloc (.cells #[.int .i64 0, .bool false] 119)).alloc (.cells #[.int .i64 x, .bool false] 119)).cell? ⟨w.heap.size + 1, 1, none⟩ = some (.bool false) := by simp [go_sem]
  have k5 : (((w.alloc (.cells #[.int .u8 (o : Int), .int .i64 N] 54)).alloc (.cells #[.int .i64 0, .bool false] 119)).alloc (.cells #[.int .i64 x, .bool false] 119)).frozen? ⟨w.heap.size + 1, 0, none⟩ = false := by simp [go_sem]
  have k6 : (((w.alloc (.cells #[.int .u8 (o : Int), .int .i64 N] 54)).alloc (.cells #[.int .i64 0, .bool false] 119)).alloc (.cells #[.int .i64 x, .bool false] 119)).frozen? ⟨w.heap.size + 1, 1, none⟩ = false := by simp [go_sem]
  have HB : Hid (Below w.heap.size w (((w.alloc (.cells #[.int .u8 (o : Int), .int .i64 N] 54)).alloc (.cells #[.int .i64 0, .bool false] 119)).alloc (.cells #[.int .i64 x, .bool false] 119))) := (by repeat (first | exact Below.refl _ _ | refine Below.alloc ?_ (by first | (simp; done) | (simp; omega)) _ | refine Below.setCell ?_ (by first | (simp; done) | (simp; omega)) _))
  clear hc0 hc1 hc2 hc3 hc4
  generalize (((w.alloc (.cells #[.int .u8 (o : Int), .int .i64 N] 54)).alloc (.cells #[.int .i64 0, .bool false] 119)).alloc (.cells #[.int .i64 x, .bool false] 119)) = W at *
  go_region_held3 (fun w' => w'.cell? ⟨w.heap.size, 0, none⟩ = some (.int .u8 (o : Int)) ∧ w'.cell? ⟨w.heap.size + 1 + 1, 0, none⟩ = some (.int .i64 x) ∧ w'.cell? ⟨b, off + 2, none⟩ = some (.int .i64 x2))
    (first | exact ⟨by assumption, by assumption, by assumption⟩ | (refine ⟨?_, ?_, ?_⟩ <;> simp [go_sem, *] <;> done))
    (first | (go_at_call 72; refine (F.out _).mono ?_; rintro e w' ⟨rfl, hb⟩; have s0 := kc ⟨w.heap.size, 0, none⟩ (.int .u8 (o : Int)) hb (by assumption); have s1 := kc ⟨w.heap.size + 1 + 1, 0, none⟩ (.int .i64 x) hb (by assumption); have s2 := kc ⟨b, off + 2, none⟩ (.int .i64 x2) hb (by assumption); have s3 := kc ⟨w.heap.size + 1, 0, none⟩ (.int .i64 0) hb (by assumption); have s4 := kc ⟨w.heap.size + 1, 1, none⟩ (.bool false) hb (by assumption); have s5 := kf ⟨w.heap.size + 1, 0, none⟩ (.int .i64 0) hb (by assumption) (by assumption); have s6 := kf ⟨w.heap.size + 1, 1, none⟩ (.bool false) hb (by assumption) (by assumption); have s7 := hideR (beyond (w := w) (by first | exact HB.out | exact Below.drew HB.out) hb)))
  all_goals go_wp2_with fail
  all_goals exact bodyPost_ret (v := valV (x3, y3)) (by simp [results, Tryd.results57, go_sem, *]) rfl ⟨rfl, set2 s7.out (Nat.le_succ _) _ _⟩
set_option maxRecDepth 100000 in
set_option maxHeartbeats 1000000 in
theorem vJoinAnd (N : Int) (vv : Value) (m cap b off : Nat) (x2 : Int) (hx2 : inR x2) (hm : 1 < m) (w : World) (hc0 : w.cell? ⟨b, off, none⟩ = some (.int .i64 1)) (hc1 : w.cell? ⟨b, off + 1, none⟩ = some (.bool false)) (hc2 : w.cell? ⟨b, off + 2, none⟩ = some (.int .i64 x2)) (hc3 : w.cell? ⟨b, off + 3, none⟩ = some (.bool false)) : Calls Tryd.prog 57 #[.agg #[.int .u8 13, .int .i64 N], vv, .slice (some ⟨b, off, none⟩) m cap] w fun e w' => e = .returned (valV (joinV 13 1 x2)) ∧ Below w.heap.size w w' := by
  have hl : b < w.heap.size := World.block_lt_of_cell? _ _ hc0
  have hl0 : ¬ b = w.heap.size := by omega
  have hl1 : ¬ b = w.heap.size + 1 := by omega
  have hl2 : ¬ b = w.heap.size + 1 + 1 := by omega
  have hl3 : b < w.heap.size + 1 := by omega
  have hl4 : b < w.heap.size + 1 + 1 := by omega
  have m0 : (0 : Int) < (m : Int) := by omega
  have m1 : (1 : Int) < (m : Int) := by omega
  have hc4 : w.cell? ⟨b, off + 2 + 1, none⟩ = some (.bool false) := hc3
  have F := hideR (fun W => joined_any 13 (by omega) 1 x2 (by unfold inR; omega) hx2 W)
  clear hx2
  generalize (joinV 13 1 x2) = v at *
  obtain ⟨x3, y3⟩ := v
  go_enter Tryd.func57, Tryd.ntmps57
  go_wp2_with fail
  have k0 : (((w.alloc (.cells #[.int .u8 13, .int .i64 N] 54)).alloc (.cells #[.int .i64 0, .bool false] 119)).alloc (.cells #[.int .i64 1, .bool false] 119)).cell? ⟨w.heap.size, 0, none⟩ = some (.int .u8 13) := by simp [go_sem]
  have k1 : (((w.alloc (.cells #[.int .u8 13, .int .i64 N] 54)).alloc (.cells #[.int .i64 0, .bool false] 119)).alloc (.cells #[.int .i64 1, .bool false] 119)).cell? ⟨w.heap.size + 1 + 1, 0, none⟩ = some (.int .i64 1) := by simp [go_sem]
  have k2 : (((w.alloc (.cells #[.int .u8 13, .int .i64 N] 54)).alloc (.cells #[.int .i64 0, .bool false] 119)).alloc (.cells #[.int .i64 1, .bool false] 119)).cell? ⟨b, off + 2, none⟩ = some (.int .i64 x2) := by simp [go_sem, *]
  have k3 : (((w.alloc (.cells #[.int .u8 13, .int .i64 N] 54)).alloc (.cells #[.int .i64 0, .bool false] 119)).alloc (.cells #[.int .i64 1, .bool false] 119)).cell? ⟨w.heap.size + 1, 0, none⟩ = some (.int .i64 0) := by simp [go_sem]
  have k4 : (((w.alloc (.cells #[.int .u8 13, .int .i64 N] 54)).alloc (.cells #[.int .i64 0, .bool false] 119)).alloc (.cells #[.int .i64 1, .bool false] 119)).cell? ⟨w.heap.size + 1, 1, none⟩ = some (.bool false) := by simp [go_sem]
  have k5 : (((w.alloc (.cells #[.int .u8 13, .int .i64 N] 54)).alloc (.cells #[.int .i64 0, .bool false] 119)).alloc (.cells #[.int .i64 1, .bool false] 119)).frozen? ⟨w.heap.size + 1, 0, none⟩ = false := by simp [go_sem]
  have k6 : (((w.alloc (.cells #[.int .u8 13, .int .i64 N] 54)).alloc (.cells #[.int .i64 0, .bool false] 119)).alloc (.cells #[.int .i64 1, .bool false] 119)).frozen? ⟨w.heap.size + 1, 1, none⟩ = false := by simp [go_sem]
  have HB : Hid (Below w.heap.size w (((w.alloc (.cells #[.int .u8 13, .int .i64 N] 54)).alloc (.cells #[.int .i64 0, .bool false] 119)).alloc (.cells #[.int .i64 1, .bool false] 119))) := (by repeat (first | exact Below.refl _ _ | refine Below.alloc ?_ (by first | (simp; done) | (simp; omega)) _ | refine Below.setCell ?_ (by first | (simp; done) | (simp; omega)) _))
  clear hc0 hc1 hc2 hc3 hc4
  generalize (((w.alloc (.cells #[.int .u8 13, .int .i64 N] 54)).alloc (.cells #[.int .i64 0, .bool false] 119)).alloc (.cells #[.int .i64 1, .bool false] 119)) = W at *
  go_region_held3 (fun w' => w'.cell? ⟨w.heap.size, 0, none⟩ = some (.int .u8 13) ∧ w'.cell? ⟨w.heap.size + 1 + 1, 0, none⟩ = some (.int .i64 1) ∧ w'.cell? ⟨b, off + 2, none⟩ = some (.int .i64 x2))
    (first | exact ⟨by assumption, by assumption, by assumption⟩ | (refine ⟨?_, ?_, ?_⟩ <;> simp [go_sem, *] <;> done))
    (first | (go_at_call 72; refine (F.out _).mono ?_; rintro e w' ⟨rfl, hb⟩; have s0 := kc ⟨w.heap.size, 0, none⟩ (.int .u8 13) hb (by assumption); have s1 := kc ⟨w.heap.size + 1 + 1, 0, none⟩ (.int .i64 1) hb (by assumption); have s2 := kc ⟨b, off + 2, none⟩ (.int .i64 x2) hb (by assumption); have s3 := kc ⟨w.heap.size + 1, 0, none⟩ (.int .i64 0) hb (by assumption); have s4 := kc ⟨w.heap.size + 1, 1, none⟩ (.bool false) hb (by assumption); have s5 := kf ⟨w.heap.size + 1, 0, none⟩ (.int .i64 0) hb (by assumption) (by assumption); have s6 := kf ⟨w.heap.size + 1, 1, none⟩ (.bool false) hb (by assumption) (by assumption); have s7 := hideR (beyond (w := w) (by first | exact HB.out | exact Below.drew HB.out) hb)))
  all_goals go_wp2_with fail
  all_goals exact bodyPost_ret (v := valV (x3, y3)) (by simp [results, Tryd.results57, go_sem, *]) rfl ⟨rfl, set2 s7.out (Nat.le_succ _) _ _⟩
set_option maxRecDepth 100000 in
set_option maxHeartbeats 1000000 in
theorem vJoinOr (N : Int) (vv : Value) (m cap b off : Nat) (x x2 : Int) (hx : (x == 1) = false) (hx1 : inR x) (hx2 : inR x2) (hm : 1 < m) (w : World) (hc0 : w.cell? ⟨b, off, none⟩ = some (.int .i64 x)) (hc1 : w.cell? ⟨b, off + 1, none⟩ = some (.bool false)) (hc2 : w.cell? ⟨b, off + 2, none⟩ = some (.int .i64 x2)) (hc3 : w.cell? ⟨b, off + 3, none⟩ = some (.bool false)) : Calls Tryd.prog 57 #[.agg #[.int .u8 14, .int .i64 N], vv, .slice (some ⟨b, off, none⟩) m cap] w fun e w' => e = .returned (valV (joinV 14 x x2)) ∧ Below w.heap.size w w' := by
  have hl : b < w.heap.size := World.block_lt_of_cell? _ _ hc0
  have hl0 : ¬ b = w.heap.size := by omega
  have hl1 : ¬ b = w.heap.size + 1 := by omega
  have hl2 : ¬ b = w.heap.size + 1 + 1 := by omega
  have hl3 : b < w.heap.size + 1 := by omega
  have hl4 : b < w.heap.size + 1 + 1 := by omega
  have m0 : (0 : Int) < (m : Int) := by omega
  have m1 : (1 : Int) < (m : Int) := by omega
  have hc4 : w.cell? ⟨b, off + 2 + 1, none⟩ = some (.bool false) := hc3
  have F := hideR (fun W => joined_any 14 (by omega) x x2 hx1 hx2 W)
  clear hx1 hx2
  generalize (joinV 14 x x2) = v at *
  obtain ⟨x3, y3⟩ := v
  go_enter Tryd.func57, Tryd.ntmps57
  go_wp2_with fail
  have k0 : (((w.alloc (.cells #[.int .u8 14, .int .i64 N] 54)).alloc (.cells #[.int .i64 0, .bool false] 119)).alloc (.cells #[.int .i64 x, .bool false] 119)).cell? ⟨w.heap.size, 0, none⟩ = some (.int .u8 14) := by simp [go_sem]
  have k1 : (((w.alloc (.cells #[.int .u8 14, .int .i64 N] 54)).alloc (.cells #[.int .i64 0, .bool false] 119)).alloc (.cells #[.int .i64 x, .bool false] 119)).cell? ⟨w.heap.size + 1 + 1, 0, none⟩ = some (.int .i64 x) := by simp [go_sem]
  have k2 : (((w.alloc (.cells #[.int .u8 14, .int .i64 N] 54)).alloc (.cells #[.int .i64 0, .bool false] 119)).alloc (.cells #[.int .i64 x, .bool false] 119)).cell? ⟨b, off + 2, none⟩ = some (.int .i64 x2) := by simp [go_sem, *]
  have k3 : (((w.alloc (.cells #[.int .u8 14, .int .i64 N] 54)).alloc (.cells #[.int .i64 0, .bool false] 119)).alloc (.cells #[.int .i64 x, .bool false] 119)).cell? ⟨w.heap.size + 1, 0, none⟩ = some (.int .i64 0) := by simp [go_sem]
  have k4 : (((w.alloc (.cells #[.int .u8 14, .int .i64 N] 54)).alloc (.cells #[.int .i64 0, .bool false] 119)).alloc (.cells #[.int .i64 x, .bool false] 119)).cell? ⟨w.heap.size + 1, 1, none⟩ = some (.bool false) := by simp [go_sem]
  have k5 : (((w.alloc (.cells #[.int .u8 14, .int .i64 N] 54)).alloc (.cells #[.int .i64 0, .bool false] 119)).alloc (.cells #[.int .i64 x, .bool false] 119)).frozen? ⟨w.heap.size + 1, 0, none⟩ = false := by simp [go_sem]
  have k6 : (((w.alloc (.cells #[.int .u8 14, .int .i64 N] 54)).alloc (.cells #[.int .i64 0, .bool false] 119)).alloc (.cells #[.int .i64 x, .bool false] 119)).frozen? ⟨w.heap.size + 1, 1, none⟩ = false := by simp [go_sem]
  have HB : Hid (Below w.heap.size w (((w.alloc (.cells #[.int .u8 14, .int .i64 N] 54)).alloc (.cells #[.int .i64 0, .bool false] 119)).alloc (.cells #[.int .i64 x, .bool false] 119))) := (by repeat (first | exact Below.refl _ _ | refine Below.alloc ?_ (by first | (simp; done) | (simp; omega)) _ | refine Below.setCell ?_ (by first | (simp; done) | (simp; omega)) _))
  clear hc0 hc1 hc2 hc3 hc4
  generalize (((w.alloc (.cells #[.int .u8 14, .int .i64 N] 54)).alloc (.cells #[.int .i64 0, .bool false] 119)).alloc (.cells #[.int .i64 x, .bool false] 119)) = W at *
  go_region_held3 (fun w' => w'.cell? ⟨w.heap.size, 0, none⟩ = some (.int .u8 14) ∧ w'.cell? ⟨w.heap.size + 1 + 1, 0, none⟩ = some (.int .i64 x) ∧ w'.cell? ⟨b, off + 2, none⟩ = some (.int .i64 x2))
    (first | exact ⟨by assumption, by assumption, by assumption⟩ | (refine ⟨?_, ?_, ?_⟩ <;> simp [go_sem, *] <;> done))
    (first | (go_at_call 72; refine (F.out _).mono ?_; rintro e w' ⟨rfl, hb⟩; have s0 := kc ⟨w.heap.size, 0, none⟩ (.int .u8 14) hb (by assumption); have s1 := kc ⟨w.heap.size + 1 + 1, 0, none⟩ (.int .i64 x) hb (by assumption); have s2 := kc ⟨b, off + 2, none⟩ (.int .i64 x2) hb (by assumption); have s3 := kc ⟨w.heap.size + 1, 0, none⟩ (.int .i64 0) hb (by assumption); have s4 := kc ⟨w.heap.size + 1, 1, none⟩ (.bool false) hb (by assumption); have s5 := kf ⟨w.heap.size + 1, 0, none⟩ (.int .i64 0) hb (by assumption) (by assumption); have s6 := kf ⟨w.heap.size + 1, 1, none⟩ (.bool false) hb (by assumption) (by assumption); have s7 := hideR (beyond (w := w) (by first | exact HB.out | exact Below.drew HB.out) hb)))
  all_goals go_wp2_with fail
  all_goals exact bodyPost_ret (v := valV (x3, y3)) (by simp [results, Tryd.results57, go_sem, *]) rfl ⟨rfl, set2 s7.out (Nat.le_succ _) _ _⟩
/-- What a node's number and parts are, for which its value is asked. -/
def NodeOK (vs : List Int) (n : Node) (ps : List Val) : Prop := 1 ≤ n.1 ∧ n.1 ≤ 14 ∧ (n.1 = 2 → 0 ≤ n.2 ∧ n.2 < (vs.length : Int)) ∧ ps.length = pt n ∧ (∀ p ∈ ps, inR p.1)
theorem pt_one (n : Node) (h : 1 ≤ n.1 ∧ n.1 ≤ 14) (h1 : ¬ n.1 = 1) (h2 : ¬ n.1 = 2) (h7 : ¬ n.1 = 7) : 1 ≤ pt n := by
  obtain ⟨o, N⟩ := n
  simp only at *
  have : ∀ o : Nat, o < 15 → 1 ≤ o → ¬ o = 1 → ¬ o = 2 → ¬ o = 7 → 1 ≤ (opR o).1 := by decide
  exact this o (by omega) h.1 h1 h2 h7
theorem pt_two (n : Node) (h : 1 ≤ n.1 ∧ n.1 ≤ 14) (h1 : ¬ n.1 = 1) (h2 : ¬ n.1 = 2) (h7 : ¬ n.1 = 7) (h3 : ¬ n.1 = 3) (h12 : ¬ n.1 = 12) : 2 ≤ pt n := by
  obtain ⟨o, N⟩ := n
  simp only at *
  have : ∀ o : Nat, o < 15 → (1 ≤ o ∧ ¬ o = 1 ∧ ¬ o = 2 ∧ ¬ o = 7 ∧ ¬ o = 3 ∧ ¬ o = 12) → 2 ≤ (opR o).1 := by decide
  exact this o (by omega) ⟨h.1, h1, h2, h7, h3, h12⟩
theorem valueOf_any (vs : List Int) (n : Node) (ps : List Val) (hok : NodeOK vs n ps) (va : Option Addr) (vc : Nat) (ad : Option Addr) (cap : Nat) (w : World) (hv : RowV w va (vs.flatMap IntC)) (hp : RowV w ad (ps.flatMap ValC)) :
    Calls Tryd.prog 57 #[nodeV n, .slice va vs.length vc, .slice ad ps.length cap] w fun e w' => e = .returned (valV (valueJ vs n ps)) ∧ Below w.heap.size w w' := by
  obtain ⟨h1, h14, hvar, hlen, hin⟩ := hok
  have P1 := pt_one n ⟨h1, h14⟩
  have P2 := pt_two n ⟨h1, h14⟩
  rw [← hlen] at P1 P2
  clear hlen
  obtain ⟨o, N⟩ := n
  unfold valueJ
  simp only at *
  have nt : ∀ k : Nat, ¬ o = k → ((o : Int) == (k : Int)) = false := fun k h => by simp; omega
  by_cases c1 : o = 1
  · subst c1; rw [if_pos rfl]; exact leaf1 N _ _ w
  rw [if_neg c1]
  by_cases c2 : o = 2
  · subst c2; rw [if_pos rfl]
    obtain ⟨v0, v1⟩ := hvar rfl
    obtain ⟨N', rfl⟩ := Int.eq_ofNat_of_zero_le v0
    have hN : N' < vs.length := by omega
    obtain ⟨b, off, rfl, cc⟩ := rowV_at (s := 1) (fun _ => rfl) hv (by decide) hN
    have x0 := cc 0 (by decide)
    simp only [IntC, List.getElem?_cons_zero, Nat.mul_one, Nat.add_zero] at x0
    have e : vs.getD (N' : Int).toNat 0 = vs[N'] := by simp [hN]
    rw [e]
    exact leaf2 N' _ vc b off _ hN _ w x0
  rw [if_neg c2]
  by_cases c7 : o = 7
  · subst c7; rw [if_pos rfl]; exact leaf7 N _ _ w
  rw [if_neg c7]
  replace P1 := P1 c1 c2 c7
  replace P2 := P2 c1 c2 c7
  have i1 := nt 1 c1
  have i2 := nt 2 c2
  have i7 := nt 7 c7
  match ps, P1 with
  | (x, y) :: rest, _ =>
    have hL : ((x, y) :: rest).length = rest.length + 1 := rfl
    obtain ⟨b, off, rfl, q0⟩ := hp 0 (.int .i64 x) rfl
    obtain ⟨b', off', e', q1⟩ := hp 1 (.bool y) rfl
    injection e' with e'
    injection e' with e1 e2
    subst e1 e2
    rw [Nat.add_zero] at q0
    have hx : inR x := hin (x, y) List.mem_cons_self
    simp only [List.getD_cons_zero]
    cases y with
    | true =>
      rw [if_pos rfl]
      exact vLeft o N _ _ cap b off x i1 i2 i7 (by rw [hL]; omega) w q0 q1
    | false =>
      rw [if_neg (by decide)]
      by_cases c13 : o = 13 ∧ ¬ x = 1
      · rw [if_pos c13]
        obtain ⟨rfl, cx⟩ := c13
        exact vAndNo N _ _ cap b off x (by simpa using cx) (by rw [hL]; omega) w q0 q1
      rw [if_neg c13]
      by_cases c14 : o = 14 ∧ x = 1
      · rw [if_pos c14]
        obtain ⟨rfl, rfl⟩ := c14
        exact vOrYes N _ _ cap b off (by rw [hL]; omega) w q0 q1
      rw [if_neg c14]
      by_cases c3 : o = 3
      · subst c3; rw [if_pos rfl]
        exact vNeg N _ _ cap b off x hx (by rw [hL]; omega) w q0 q1
      rw [if_neg c3]
      by_cases c12 : o = 12
      · subst c12; rw [if_pos rfl]
        exact vNot N _ _ cap b off x (by rw [hL]; omega) w q0 q1
      rw [if_neg c12]
      replace P2 := P2 c3 c12
      match rest, P2 with
      | (x2, y2) :: rest, _ =>
        have hL : ((x, false) :: (x2, y2) :: rest).length = rest.length + 2 := rfl
        obtain ⟨b3, off3, e3, q2⟩ := hp 2 (.int .i64 x2) rfl
        obtain ⟨b4, off4, e4, q3⟩ := hp 3 (.bool y2) rfl
        injection e3 with e3
        injection e3 with e1 e2
        subst e1 e2
        injection e4 with e4
        injection e4 with e1 e2
        subst e1 e2
        have hx2 : inR x2 := hin (x2, y2) (by simp)
        simp only [List.getD_cons_succ, List.getD_cons_zero]
        have m2 : 1 < ((x, false) :: (x2, y2) :: rest).length := by rw [hL]; omega
        cases y2 with
        | true =>
          rw [if_pos rfl]
          by_cases d13 : o = 13
          · subst d13
            have : x = 1 := by
              by_cases q : x = 1
              · exact q
              · exact (c13 ⟨rfl, q⟩).elim
            subst this
            exact vRightAndNo N _ _ cap b off x2 m2 w q0 q1 q2 q3
          by_cases d14 : o = 14
          · subst d14
            exact vRightOrNo N _ _ cap b off x x2 (by simp; exact fun q => c14 ⟨rfl, q⟩) m2 w q0 q1 q2 q3
          exact vRightNo o N _ _ cap b off x x2 i1 i2 i7 (nt 13 d13) (nt 14 d14) (nt 3 c3) (nt 12 c12) m2 w q0 q1 q2 q3
        | false =>
          rw [if_neg (by decide)]
          by_cases d13 : o = 13
          · subst d13
            have : x = 1 := by
              by_cases q : x = 1
              · exact q
              · exact (c13 ⟨rfl, q⟩).elim
            subst this
            exact vJoinAnd N _ _ cap b off x2 hx2 m2 w q0 q1 q2 q3
          by_cases d14 : o = 14
          · subst d14
            exact vJoinOr N _ _ cap b off x x2 (by simp; exact fun q => c14 ⟨rfl, q⟩) hx hx2 m2 w q0 q1 q2 q3
          exact vJoin o N _ _ cap b off x x2 (by omega) i1 i2 i7 (nt 13 d13) (nt 14 d14) (nt 3 c3) (nt 12 c12) hx hx2 m2 w q0 q1 q2 q3
end Go.Proofs.YtgidlgmnkjoofaaDoor
