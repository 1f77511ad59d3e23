/-
  The document's value, step by step.
-/
import Derived.Test.YtmnhbokiibaopaaDoorRa8
namespace Go.Proofs.YtmnhbokiibaopaaDoor
open Go.RowKit
set_option linter.unusedVariables false
/-- What is told of a value: a number and whether there is one. -/
def AnsW (e : Ending) (x : Val) : Prop := ∃ (v : Int) (ok : Bool), e = .returned (.tuple #[.int .i64 v, .bool ok]) ∧ ok = !x.2 ∧ (ok = true → v = x.1)
theorem ansW_no {v : Int} : AnsW (.returned (.tuple #[.int .i64 v, .bool false])) (0, true) := ⟨v, false, rfl, rfl, fun h => by cases h⟩
theorem ansW_none {v x : Int} : AnsW (.returned (.tuple #[.int .i64 v, .bool false])) (x, true) := ⟨v, false, rfl, rfl, fun h => by cases h⟩
theorem ansW_yes {v : Int} : AnsW (.returned (.tuple #[.int .i64 v, .bool true])) (v, false) := ⟨v, true, rfl, rfl, fun _ => rfl⟩
theorem ansW_hold (x : Int) : AnsW (.returned (.tuple #[.int .i64 (wrap64 x), .bool (decide (inR x))])) (holdV x) := by
  by_cases c : inR x
  · rw [holdV_in c, decide_eq_true c, w64_in x c]
    exact ansW_yes
  · rw [holdV_out c, decide_eq_false c]
    exact ansW_no
theorem ansW_prod (x : Int) : AnsW (.returned (.tuple #[.int .i64 (prodT x).1, .bool (prodT x).2])) (holdV x) := by
  by_cases c : inR x
  · rw [holdV_in c, show prodT x = (x, true) from if_pos c]
    exact ansW_yes
  · rw [holdV_out c, show prodT x = (0, false) from if_neg c]
    exact ansW_no
theorem sub_test (a b : Int) (ha : inR a) (hb : inR b) : (if 0 ≤ b then decide (wrap64 (a - b) ≤ a) else decide (a < wrap64 (a - b))) = decide (inR (a - b)) := by
  unfold wrap64
  split
  · rw [decide_eq_decide]
    omega
  · rw [decide_eq_decide]
    omega
set_option maxRecDepth 100000 in
theorem val1 (bk off cap i n : Nat) (N : Int) (vv : Value) (hi : i < n) (hn : n ≤ 64) (w : World) (x0 : w.cell? ⟨bk, off + i * 2, none⟩ = some (.int .u8 1)) (x1 : w.cell? ⟨bk, off + i * 2 + 1, none⟩ = some (.int .i64 N)) :
    Calls Tryd.prog 44 #[.slice (some ⟨bk, off, none⟩) n cap, .int .i64 (i : Int), vv] w fun e w' => AnsW e (N, false) ∧ Below w.heap.size w w' := by
  have k0 : (0 : Int) ≤ (i : Int) := by omega
  have k1 : (i : Int) < (n : Int) := by omega
  have e1 : IntKind.i64.wrap ((i : Int) + 1) = (i : Int) + 1 := by rw [IntKind.wrap_i64]; omega
  go_enter Tryd.func44, Tryd.ntmps44
  go_wp2_with fail
  exact bodyPost_ret (v := .tuple #[.int .i64 (N), .bool true]) (by simp [results, Tryd.results44, go_sem]) rfl ⟨ansW_yes, Below.refl _ _⟩
set_option maxRecDepth 100000 in
theorem val7 (bk off cap i n : Nat) (vv : Value) (hi : i < n) (hn : n ≤ 64) (w : World) (x0 : w.cell? ⟨bk, off + i * 2, none⟩ = some (.int .u8 7)) :
    Calls Tryd.prog 44 #[.slice (some ⟨bk, off, none⟩) n cap, .int .i64 (i : Int), vv] w fun e w' => AnsW e (1, false) ∧ Below w.heap.size w w' := by
  have k0 : (0 : Int) ≤ (i : Int) := by omega
  have k1 : (i : Int) < (n : Int) := by omega
  have e1 : IntKind.i64.wrap ((i : Int) + 1) = (i : Int) + 1 := by rw [IntKind.wrap_i64]; omega
  go_enter Tryd.func44, Tryd.ntmps44
  go_wp2_with fail
  exact bodyPost_ret (v := .tuple #[.int .i64 (1), .bool true]) (by simp [results, Tryd.results44, go_sem]) rfl ⟨ansW_yes, Below.refl _ _⟩
set_option maxRecDepth 100000 in
theorem val2 (bk off cap i n N nv vb vo vc : Nat) (x : Int) (hi : i < n) (hn : n ≤ 64) (hN : N < nv) (w : World) (x0 : w.cell? ⟨bk, off + i * 2, none⟩ = some (.int .u8 2)) (x1 : w.cell? ⟨bk, off + i * 2 + 1, none⟩ = some (.int .i64 (N : Int))) (hc : w.cell? ⟨vb, vo + N, none⟩ = some (.int .i64 x)) :
    Calls Tryd.prog 44 #[.slice (some ⟨bk, off, none⟩) n cap, .int .i64 (i : Int), .slice (some ⟨vb, vo, none⟩) nv vc] w fun e w' => AnsW e (x, false) ∧ Below w.heap.size w w' := by
  have k2 : (N : Int) < (nv : Int) := by omega
  have k0 : (0 : Int) ≤ (i : Int) := by omega
  have k1 : (i : Int) < (n : Int) := by omega
  have e1 : IntKind.i64.wrap ((i : Int) + 1) = (i : Int) + 1 := by rw [IntKind.wrap_i64]; omega
  go_enter Tryd.func44, Tryd.ntmps44
  go_wp2_with fail
  exact bodyPost_ret (v := .tuple #[.int .i64 (x), .bool true]) (by simp [results, Tryd.results44, go_sem]) rfl ⟨ansW_yes, Below.refl _ _⟩
set_option maxRecDepth 100000 in
theorem valNo (bk off cap i n o : Nat) (x : Int) (vv : Value) (i1 : ((o : Int) == 1) = false) (i2 : ((o : Int) == 2) = false) (i7 : ((o : Int) == 7) = false) (hi : i < n) (hn : n ≤ 64) (w : World) (x0 : w.cell? ⟨bk, off + i * 2, none⟩ = some (.int .u8 (o : Int))) (VA : Hid (∀ W, Below w.heap.size w W → Calls Tryd.prog 44 #[.slice (some ⟨bk, off, none⟩) n cap, .int .i64 ((i : Int) + 1), vv] W fun e w' => (∃ a : Int, e = .returned (.tuple #[.int .i64 a, .bool false])) ∧ Below W.heap.size W w')) :
    Calls Tryd.prog 44 #[.slice (some ⟨bk, off, none⟩) n cap, .int .i64 (i : Int), vv] w fun e w' => AnsW e (x, true) ∧ Below w.heap.size w w' := by
  have k0 : (0 : Int) ≤ (i : Int) := by omega
  have k1 : (i : Int) < (n : Int) := by omega
  have e1 : IntKind.i64.wrap ((i : Int) + 1) = (i : Int) + 1 := by rw [IntKind.wrap_i64]; omega
  go_enter Tryd.func44, Tryd.ntmps44
  go_wp2_with fail
  refine (VA.out _ (Below.refl _ _)).mono ?_
  rintro e w1 ⟨⟨a, rfl⟩, hb⟩
  have B1 := hideR (hb)
  clear hb VA
  go_wp2_with fail
  exact bodyPost_ret (v := .tuple #[.int .i64 (0), .bool false]) (by simp [results, Tryd.results44, go_sem]) rfl ⟨ansW_none, B1.out⟩
set_option maxRecDepth 100000 in
theorem valNeg (bk off cap i n : Nat) (a : Int) (vv : Value) (hi : i < n) (hn : n ≤ 64) (ha : inR a) (w : World) (x0 : w.cell? ⟨bk, off + i * 2, none⟩ = some (.int .u8 3)) (VA : Hid (∀ W, Below w.heap.size w W → Calls Tryd.prog 44 #[.slice (some ⟨bk, off, none⟩) n cap, .int .i64 ((i : Int) + 1), vv] W fun e w' => e = .returned (.tuple #[.int .i64 a, .bool true]) ∧ Below W.heap.size W w')) :
    Calls Tryd.prog 44 #[.slice (some ⟨bk, off, none⟩) n cap, .int .i64 (i : Int), vv] w fun e w' => AnsW e (holdV (0 - a)) ∧ Below w.heap.size w w' := by
  have PR := hideR (fun W => rprod_any a (-1) ha (by decide) W)
  have AP := hideR (ansW_prod (a * -1))
  rw [show (0 : Int) - a = a * -1 by omega]
  generalize holdV (a * -1) = hv at *
  generalize prodT (a * -1) = pr at *
  clear ha
  have k0 : (0 : Int) ≤ (i : Int) := by omega
  have k1 : (i : Int) < (n : Int) := by omega
  have e1 : IntKind.i64.wrap ((i : Int) + 1) = (i : Int) + 1 := by rw [IntKind.wrap_i64]; omega
  go_enter Tryd.func44, Tryd.ntmps44
  go_wp2_with fail
  refine (VA.out _ (Below.refl _ _)).mono ?_
  rintro e w1 ⟨rfl, hb⟩
  have B1 := hideR (hb)
  clear hb VA
  go_wp2_with fail
  refine (PR.out _).mono ?_
  rintro e w2 ⟨rfl, hb⟩
  have B2 := hideR (beyond B1.out hb)
  clear hb PR
  go_wp2_with fail
  exact bodyPost_ret (v := .tuple #[.int .i64 pr.1, .bool pr.2]) (by simp [results, Tryd.results44, go_sem]) rfl ⟨AP.out, B2.out⟩
set_option maxRecDepth 100000 in
theorem valNot (bk off cap i n : Nat) (a : Int) (vv : Value) (hi : i < n) (hn : n ≤ 64) (w : World) (x0 : w.cell? ⟨bk, off + i * 2, none⟩ = some (.int .u8 12)) (VA : Hid (∀ W, Below w.heap.size w W → Calls Tryd.prog 44 #[.slice (some ⟨bk, off, none⟩) n cap, .int .i64 ((i : Int) + 1), vv] W fun e w' => e = .returned (.tuple #[.int .i64 a, .bool true]) ∧ Below W.heap.size W w')) :
    Calls Tryd.prog 44 #[.slice (some ⟨bk, off, none⟩) n cap, .int .i64 (i : Int), vv] w fun e w' => AnsW e (wrap64 (1 - a), false) ∧ Below w.heap.size w w' := by
  have k0 : (0 : Int) ≤ (i : Int) := by omega
  have k1 : (i : Int) < (n : Int) := by omega
  have e1 : IntKind.i64.wrap ((i : Int) + 1) = (i : Int) + 1 := by rw [IntKind.wrap_i64]; omega
  go_enter Tryd.func44, Tryd.ntmps44
  go_wp2_with fail
  refine (VA.out _ (Below.refl _ _)).mono ?_
  rintro e w1 ⟨rfl, hb⟩
  have B1 := hideR (hb)
  clear hb VA
  go_wp2_with fail
  exact bodyPost_ret (v := .tuple #[.int .i64 (wrap64 (1 - a)), .bool true]) (by simp [results, Tryd.results44, go_sem]) rfl ⟨ansW_yes, B1.out⟩
set_option maxRecDepth 100000 in
theorem valAnd0 (bk off cap i n : Nat) (vv : Value) (hi : i < n) (hn : n ≤ 64) (w : World) (x0 : w.cell? ⟨bk, off + i * 2, none⟩ = some (.int .u8 13)) (VA : Hid (∀ W, Below w.heap.size w W → Calls Tryd.prog 44 #[.slice (some ⟨bk, off, none⟩) n cap, .int .i64 ((i : Int) + 1), vv] W fun e w' => e = .returned (.tuple #[.int .i64 0, .bool true]) ∧ Below W.heap.size W w')) :
    Calls Tryd.prog 44 #[.slice (some ⟨bk, off, none⟩) n cap, .int .i64 (i : Int), vv] w fun e w' => AnsW e (0, false) ∧ Below w.heap.size w w' := by
  have k0 : (0 : Int) ≤ (i : Int) := by omega
  have k1 : (i : Int) < (n : Int) := by omega
  have e1 : IntKind.i64.wrap ((i : Int) + 1) = (i : Int) + 1 := by rw [IntKind.wrap_i64]; omega
  go_enter Tryd.func44, Tryd.ntmps44
  go_wp2_with fail
  refine (VA.out _ (Below.refl _ _)).mono ?_
  rintro e w1 ⟨rfl, hb⟩
  have B1 := hideR (hb)
  clear hb VA
  go_wp2_with fail
  exact bodyPost_ret (v := .tuple #[.int .i64 (0), .bool true]) (by simp [results, Tryd.results44, go_sem]) rfl ⟨ansW_yes, B1.out⟩
set_option maxRecDepth 100000 in
theorem valOr1 (bk off cap i n : Nat) (vv : Value) (hi : i < n) (hn : n ≤ 64) (w : World) (x0 : w.cell? ⟨bk, off + i * 2, none⟩ = some (.int .u8 14)) (VA : Hid (∀ W, Below w.heap.size w W → Calls Tryd.prog 44 #[.slice (some ⟨bk, off, none⟩) n cap, .int .i64 ((i : Int) + 1), vv] W fun e w' => e = .returned (.tuple #[.int .i64 1, .bool true]) ∧ Below W.heap.size W w')) :
    Calls Tryd.prog 44 #[.slice (some ⟨bk, off, none⟩) n cap, .int .i64 (i : Int), vv] w fun e w' => AnsW e (1, false) ∧ Below w.heap.size w w' := by
  have k0 : (0 : Int) ≤ (i : Int) := by omega
  have k1 : (i : Int) < (n : Int) := by omega
  have e1 : IntKind.i64.wrap ((i : Int) + 1) = (i : Int) + 1 := by rw [IntKind.wrap_i64]; omega
  go_enter Tryd.func44, Tryd.ntmps44
  go_wp2_with fail
  refine (VA.out _ (Below.refl _ _)).mono ?_
  rintro e w1 ⟨rfl, hb⟩
  have B1 := hideR (hb)
  clear hb VA
  go_wp2_with fail
  exact bodyPost_ret (v := .tuple #[.int .i64 (1), .bool true]) (by simp [results, Tryd.results44, go_sem]) rfl ⟨ansW_yes, B1.out⟩
set_option maxRecDepth 100000 in
theorem valNo2 (bk off cap i n en o : Nat) (x a : Int) (vv : Value) (i1 : ((o : Int) == 1) = false) (i2 : ((o : Int) == 2) = false) (i7 : ((o : Int) == 7) = false) (i3 : ((o : Int) == 3) = false) (i12 : ((o : Int) == 12) = false) (i13 : ((o : Int) == 13) = false) (i14 : ((o : Int) == 14) = false) (hi : i < n) (hn : n ≤ 64) (w : World) (x0 : w.cell? ⟨bk, off + i * 2, none⟩ = some (.int .u8 (o : Int))) (VA : Hid (∀ W, Below w.heap.size w W → Calls Tryd.prog 44 #[.slice (some ⟨bk, off, none⟩) n cap, .int .i64 ((i : Int) + 1), vv] W fun e w' => e = .returned (.tuple #[.int .i64 a, .bool true]) ∧ Below W.heap.size W w')) (EN : Hid (∀ W, Below w.heap.size w W → Calls Tryd.prog 12 #[.slice (some ⟨bk, off, none⟩) n cap, .int .i64 ((i : Int) + 1)] W fun e w' => e = .returned (.int .i64 (en : Int)) ∧ Below W.heap.size W w')) (VB : Hid (∀ W, Below w.heap.size w W → Calls Tryd.prog 44 #[.slice (some ⟨bk, off, none⟩) n cap, .int .i64 (en : Int), vv] W fun e w' => (∃ b : Int, e = .returned (.tuple #[.int .i64 b, .bool false])) ∧ Below W.heap.size W w')) :
    Calls Tryd.prog 44 #[.slice (some ⟨bk, off, none⟩) n cap, .int .i64 (i : Int), vv] w fun e w' => AnsW e (x, true) ∧ Below w.heap.size w w' := by
  have k0 : (0 : Int) ≤ (i : Int) := by omega
  have k1 : (i : Int) < (n : Int) := by omega
  have e1 : IntKind.i64.wrap ((i : Int) + 1) = (i : Int) + 1 := by rw [IntKind.wrap_i64]; omega
  go_enter Tryd.func44, Tryd.ntmps44
  go_wp2_with fail
  refine (VA.out _ (Below.refl _ _)).mono ?_
  rintro e w1 ⟨rfl, hb⟩
  have B1 := hideR (hb)
  clear hb VA
  go_wp2_with fail
  refine (EN.out _ B1.out).mono ?_
  rintro e w2 ⟨rfl, hb⟩
  have B2 := hideR (beyond B1.out hb)
  clear hb EN
  go_wp2_with fail
  refine (VB.out _ B2.out).mono ?_
  rintro e w3 ⟨⟨b, rfl⟩, hb⟩
  have B3 := hideR (beyond B2.out hb)
  clear hb VB
  go_wp2_with fail
  exact bodyPost_ret (v := .tuple #[.int .i64 (0), .bool false]) (by simp [results, Tryd.results44, go_sem]) rfl ⟨ansW_none, B3.out⟩
set_option maxRecDepth 100000 in
theorem valAndNo2 (bk off cap i n en : Nat) (x : Int) (vv : Value) (hi : i < n) (hn : n ≤ 64) (w : World) (x0 : w.cell? ⟨bk, off + i * 2, none⟩ = some (.int .u8 13)) (VA : Hid (∀ W, Below w.heap.size w W → Calls Tryd.prog 44 #[.slice (some ⟨bk, off, none⟩) n cap, .int .i64 ((i : Int) + 1), vv] W fun e w' => e = .returned (.tuple #[.int .i64 1, .bool true]) ∧ Below W.heap.size W w')) (EN : Hid (∀ W, Below w.heap.size w W → Calls Tryd.prog 12 #[.slice (some ⟨bk, off, none⟩) n cap, .int .i64 ((i : Int) + 1)] W fun e w' => e = .returned (.int .i64 (en : Int)) ∧ Below W.heap.size W w')) (VB : Hid (∀ W, Below w.heap.size w W → Calls Tryd.prog 44 #[.slice (some ⟨bk, off, none⟩) n cap, .int .i64 (en : Int), vv] W fun e w' => (∃ b : Int, e = .returned (.tuple #[.int .i64 b, .bool false])) ∧ Below W.heap.size W w')) :
    Calls Tryd.prog 44 #[.slice (some ⟨bk, off, none⟩) n cap, .int .i64 (i : Int), vv] w fun e w' => AnsW e (x, true) ∧ Below w.heap.size w w' := by
  have k0 : (0 : Int) ≤ (i : Int) := by omega
  have k1 : (i : Int) < (n : Int) := by omega
  have e1 : IntKind.i64.wrap ((i : Int) + 1) = (i : Int) + 1 := by rw [IntKind.wrap_i64]; omega
  go_enter Tryd.func44, Tryd.ntmps44
  go_wp2_with fail
  refine (VA.out _ (Below.refl _ _)).mono ?_
  rintro e w1 ⟨rfl, hb⟩
  have B1 := hideR (hb)
  clear hb VA
  go_wp2_with fail
  refine (EN.out _ B1.out).mono ?_
  rintro e w2 ⟨rfl, hb⟩
  have B2 := hideR (beyond B1.out hb)
  clear hb EN
  go_wp2_with fail
  refine (VB.out _ B2.out).mono ?_
  rintro e w3 ⟨⟨b, rfl⟩, hb⟩
  have B3 := hideR (beyond B2.out hb)
  clear hb VB
  go_wp2_with fail
  exact bodyPost_ret (v := .tuple #[.int .i64 (0), .bool false]) (by simp [results, Tryd.results44, go_sem]) rfl ⟨ansW_none, B3.out⟩
set_option maxRecDepth 100000 in
theorem valOrNo2 (bk off cap i n en : Nat) (x : Int) (vv : Value) (hi : i < n) (hn : n ≤ 64) (w : World) (x0 : w.cell? ⟨bk, off + i * 2, none⟩ = some (.int .u8 14)) (VA : Hid (∀ W, Below w.heap.size w W → Calls Tryd.prog 44 #[.slice (some ⟨bk, off, none⟩) n cap, .int .i64 ((i : Int) + 1), vv] W fun e w' => e = .returned (.tuple #[.int .i64 0, .bool true]) ∧ Below W.heap.size W w')) (EN : Hid (∀ W, Below w.heap.size w W → Calls Tryd.prog 12 #[.slice (some ⟨bk, off, none⟩) n cap, .int .i64 ((i : Int) + 1)] W fun e w' => e = .returned (.int .i64 (en : Int)) ∧ Below W.heap.size W w')) (VB : Hid (∀ W, Below w.heap.size w W → Calls Tryd.prog 44 #[.slice (some ⟨bk, off, none⟩) n cap, .int .i64 (en : Int), vv] W fun e w' => (∃ b : Int, e = .returned (.tuple #[.int .i64 b, .bool false])) ∧ Below W.heap.size W w')) :
    Calls Tryd.prog 44 #[.slice (some ⟨bk, off, none⟩) n cap, .int .i64 (i : Int), vv] w fun e w' => AnsW e (x, true) ∧ Below w.heap.size w w' := by
  have k0 : (0 : Int) ≤ (i : Int) := by omega
  have k1 : (i : Int) < (n : Int) := by omega
  have e1 : IntKind.i64.wrap ((i : Int) + 1) = (i : Int) + 1 := by rw [IntKind.wrap_i64]; omega
  go_enter Tryd.func44, Tryd.ntmps44
  go_wp2_with fail
  refine (VA.out _ (Below.refl _ _)).mono ?_
  rintro e w1 ⟨rfl, hb⟩
  have B1 := hideR (hb)
  clear hb VA
  go_wp2_with fail
  refine (EN.out _ B1.out).mono ?_
  rintro e w2 ⟨rfl, hb⟩
  have B2 := hideR (beyond B1.out hb)
  clear hb EN
  go_wp2_with fail
  refine (VB.out _ B2.out).mono ?_
  rintro e w3 ⟨⟨b, rfl⟩, hb⟩
  have B3 := hideR (beyond B2.out hb)
  clear hb VB
  go_wp2_with fail
  exact bodyPost_ret (v := .tuple #[.int .i64 (0), .bool false]) (by simp [results, Tryd.results44, go_sem]) rfl ⟨ansW_none, B3.out⟩
set_option maxRecDepth 100000 in
theorem valAnd1 (bk off cap i n en : Nat) (b : Int) (vv : Value) (hi : i < n) (hn : n ≤ 64) (w : World) (x0 : w.cell? ⟨bk, off + i * 2, none⟩ = some (.int .u8 13)) (VA : Hid (∀ W, Below w.heap.size w W → Calls Tryd.prog 44 #[.slice (some ⟨bk, off, none⟩) n cap, .int .i64 ((i : Int) + 1), vv] W fun e w' => e = .returned (.tuple #[.int .i64 1, .bool true]) ∧ Below W.heap.size W w')) (EN : Hid (∀ W, Below w.heap.size w W → Calls Tryd.prog 12 #[.slice (some ⟨bk, off, none⟩) n cap, .int .i64 ((i : Int) + 1)] W fun e w' => e = .returned (.int .i64 (en : Int)) ∧ Below W.heap.size W w')) (VB : Hid (∀ W, Below w.heap.size w W → Calls Tryd.prog 44 #[.slice (some ⟨bk, off, none⟩) n cap, .int .i64 (en : Int), vv] W fun e w' => e = .returned (.tuple #[.int .i64 b, .bool true]) ∧ Below W.heap.size W w')) :
    Calls Tryd.prog 44 #[.slice (some ⟨bk, off, none⟩) n cap, .int .i64 (i : Int), vv] w fun e w' => AnsW e (b, false) ∧ Below w.heap.size w w' := by
  have k0 : (0 : Int) ≤ (i : Int) := by omega
  have k1 : (i : Int) < (n : Int) := by omega
  have e1 : IntKind.i64.wrap ((i : Int) + 1) = (i : Int) + 1 := by rw [IntKind.wrap_i64]; omega
  go_enter Tryd.func44, Tryd.ntmps44
  go_wp2_with fail
  refine (VA.out _ (Below.refl _ _)).mono ?_
  rintro e w1 ⟨rfl, hb⟩
  have B1 := hideR (hb)
  clear hb VA
  go_wp2_with fail
  refine (EN.out _ B1.out).mono ?_
  rintro e w2 ⟨rfl, hb⟩
  have B2 := hideR (beyond B1.out hb)
  clear hb EN
  go_wp2_with fail
  refine (VB.out _ B2.out).mono ?_
  rintro e w3 ⟨rfl, hb⟩
  have B3 := hideR (beyond B2.out hb)
  clear hb VB
  go_wp2_with fail
  exact bodyPost_ret (v := .tuple #[.int .i64 (b), .bool true]) (by simp [results, Tryd.results44, go_sem]) rfl ⟨ansW_yes, B3.out⟩
set_option maxRecDepth 100000 in
theorem valOr0 (bk off cap i n en : Nat) (b : Int) (vv : Value) (hi : i < n) (hn : n ≤ 64) (w : World) (x0 : w.cell? ⟨bk, off + i * 2, none⟩ = some (.int .u8 14)) (VA : Hid (∀ W, Below w.heap.size w W → Calls Tryd.prog 44 #[.slice (some ⟨bk, off, none⟩) n cap, .int .i64 ((i : Int) + 1), vv] W fun e w' => e = .returned (.tuple #[.int .i64 0, .bool true]) ∧ Below W.heap.size W w')) (EN : Hid (∀ W, Below w.heap.size w W → Calls Tryd.prog 12 #[.slice (some ⟨bk, off, none⟩) n cap, .int .i64 ((i : Int) + 1)] W fun e w' => e = .returned (.int .i64 (en : Int)) ∧ Below W.heap.size W w')) (VB : Hid (∀ W, Below w.heap.size w W → Calls Tryd.prog 44 #[.slice (some ⟨bk, off, none⟩) n cap, .int .i64 (en : Int), vv] W fun e w' => e = .returned (.tuple #[.int .i64 b, .bool true]) ∧ Below W.heap.size W w')) :
    Calls Tryd.prog 44 #[.slice (some ⟨bk, off, none⟩) n cap, .int .i64 (i : Int), vv] w fun e w' => AnsW e (b, false) ∧ Below w.heap.size w w' := by
  have k0 : (0 : Int) ≤ (i : Int) := by omega
  have k1 : (i : Int) < (n : Int) := by omega
  have e1 : IntKind.i64.wrap ((i : Int) + 1) = (i : Int) + 1 := by rw [IntKind.wrap_i64]; omega
  go_enter Tryd.func44, Tryd.ntmps44
  go_wp2_with fail
  refine (VA.out _ (Below.refl _ _)).mono ?_
  rintro e w1 ⟨rfl, hb⟩
  have B1 := hideR (hb)
  clear hb VA
  go_wp2_with fail
  refine (EN.out _ B1.out).mono ?_
  rintro e w2 ⟨rfl, hb⟩
  have B2 := hideR (beyond B1.out hb)
  clear hb EN
  go_wp2_with fail
  refine (VB.out _ B2.out).mono ?_
  rintro e w3 ⟨rfl, hb⟩
  have B3 := hideR (beyond B2.out hb)
  clear hb VB
  go_wp2_with fail
  exact bodyPost_ret (v := .tuple #[.int .i64 (b), .bool true]) (by simp [results, Tryd.results44, go_sem]) rfl ⟨ansW_yes, B3.out⟩
set_option maxRecDepth 100000 in
theorem valAdd (bk off cap i n en : Nat) (a b : Int) (vv : Value) (hi : i < n) (hn : n ≤ 64) (ha : inR a) (hb0 : inR b) (w : World) (x0 : w.cell? ⟨bk, off + i * 2, none⟩ = some (.int .u8 4)) (VA : Hid (∀ W, Below w.heap.size w W → Calls Tryd.prog 44 #[.slice (some ⟨bk, off, none⟩) n cap, .int .i64 ((i : Int) + 1), vv] W fun e w' => e = .returned (.tuple #[.int .i64 a, .bool true]) ∧ Below W.heap.size W w')) (EN : Hid (∀ W, Below w.heap.size w W → Calls Tryd.prog 12 #[.slice (some ⟨bk, off, none⟩) n cap, .int .i64 ((i : Int) + 1)] W fun e w' => e = .returned (.int .i64 (en : Int)) ∧ Below W.heap.size W w')) (VB : Hid (∀ W, Below w.heap.size w W → Calls Tryd.prog 44 #[.slice (some ⟨bk, off, none⟩) n cap, .int .i64 (en : Int), vv] W fun e w' => e = .returned (.tuple #[.int .i64 b, .bool true]) ∧ Below W.heap.size W w')) :
    Calls Tryd.prog 44 #[.slice (some ⟨bk, off, none⟩) n cap, .int .i64 (i : Int), vv] w fun e w' => AnsW e (holdV (a + b)) ∧ Below w.heap.size w w' := by
  have PR := hideR (fun W => rsum_any a b ha hb0 W)
  have AP := hideR (ansW_hold (a + b))
  generalize holdV (a + b) = hv at *
  generalize decide (inR (a + b)) = dr at *
  generalize wrap64 (a + b) = ws at *
  clear ha hb0
  have k0 : (0 : Int) ≤ (i : Int) := by omega
  have k1 : (i : Int) < (n : Int) := by omega
  have e1 : IntKind.i64.wrap ((i : Int) + 1) = (i : Int) + 1 := by rw [IntKind.wrap_i64]; omega
  go_enter Tryd.func44, Tryd.ntmps44
  go_wp2_with fail
  refine (VA.out _ (Below.refl _ _)).mono ?_
  rintro e w1 ⟨rfl, hb⟩
  have B1 := hideR (hb)
  clear hb VA
  go_wp2_with fail
  refine (EN.out _ B1.out).mono ?_
  rintro e w2 ⟨rfl, hb⟩
  have B2 := hideR (beyond B1.out hb)
  clear hb EN
  go_wp2_with fail
  refine (VB.out _ B2.out).mono ?_
  rintro e w3 ⟨rfl, hb⟩
  have B3 := hideR (beyond B2.out hb)
  clear hb VB
  go_wp2_with fail
  refine (PR.out _).mono ?_
  rintro e w4 ⟨rfl, hb⟩
  have B4 := hideR (beyond B3.out hb)
  clear hb PR
  go_wp2_with fail
  exact bodyPost_ret (v := .tuple #[.int .i64 ws, .bool dr]) (by simp [results, Tryd.results44, go_sem]) rfl ⟨AP.out, B4.out⟩
set_option maxRecDepth 100000 in
theorem valMul (bk off cap i n en : Nat) (a b : Int) (vv : Value) (hi : i < n) (hn : n ≤ 64) (ha : inR a) (hb0 : inR b) (w : World) (x0 : w.cell? ⟨bk, off + i * 2, none⟩ = some (.int .u8 6)) (VA : Hid (∀ W, Below w.heap.size w W → Calls Tryd.prog 44 #[.slice (some ⟨bk, off, none⟩) n cap, .int .i64 ((i : Int) + 1), vv] W fun e w' => e = .returned (.tuple #[.int .i64 a, .bool true]) ∧ Below W.heap.size W w')) (EN : Hid (∀ W, Below w.heap.size w W → Calls Tryd.prog 12 #[.slice (some ⟨bk, off, none⟩) n cap, .int .i64 ((i : Int) + 1)] W fun e w' => e = .returned (.int .i64 (en : Int)) ∧ Below W.heap.size W w')) (VB : Hid (∀ W, Below w.heap.size w W → Calls Tryd.prog 44 #[.slice (some ⟨bk, off, none⟩) n cap, .int .i64 (en : Int), vv] W fun e w' => e = .returned (.tuple #[.int .i64 b, .bool true]) ∧ Below W.heap.size W w')) :
    Calls Tryd.prog 44 #[.slice (some ⟨bk, off, none⟩) n cap, .int .i64 (i : Int), vv] w fun e w' => AnsW e (holdV (a * b)) ∧ Below w.heap.size w w' := by
  have PR := hideR (fun W => rprod_any a b ha hb0 W)
  have AP := hideR (ansW_prod (a * b))
  generalize holdV (a * b) = hv at *
  generalize prodT (a * b) = pr at *
  clear ha hb0
  have k0 : (0 : Int) ≤ (i : Int) := by omega
  have k1 : (i : Int) < (n : Int) := by omega
  have e1 : IntKind.i64.wrap ((i : Int) + 1) = (i : Int) + 1 := by rw [IntKind.wrap_i64]; omega
  go_enter Tryd.func44, Tryd.ntmps44
  go_wp2_with fail
  refine (VA.out _ (Below.refl _ _)).mono ?_
  rintro e w1 ⟨rfl, hb⟩
  have B1 := hideR (hb)
  clear hb VA
  go_wp2_with fail
  refine (EN.out _ B1.out).mono ?_
  rintro e w2 ⟨rfl, hb⟩
  have B2 := hideR (beyond B1.out hb)
  clear hb EN
  go_wp2_with fail
  refine (VB.out _ B2.out).mono ?_
  rintro e w3 ⟨rfl, hb⟩
  have B3 := hideR (beyond B2.out hb)
  clear hb VB
  go_wp2_with fail
  refine (PR.out _).mono ?_
  rintro e w4 ⟨rfl, hb⟩
  have B4 := hideR (beyond B3.out hb)
  clear hb PR
  go_wp2_with fail
  exact bodyPost_ret (v := .tuple #[.int .i64 pr.1, .bool pr.2]) (by simp [results, Tryd.results44, go_sem]) rfl ⟨AP.out, B4.out⟩
set_option maxRecDepth 100000 in
theorem valLess (bk off cap i n en : Nat) (a b : Int) (vv : Value) (hi : i < n) (hn : n ≤ 64) (w : World) (x0 : w.cell? ⟨bk, off + i * 2, none⟩ = some (.int .u8 8)) (VA : Hid (∀ W, Below w.heap.size w W → Calls Tryd.prog 44 #[.slice (some ⟨bk, off, none⟩) n cap, .int .i64 ((i : Int) + 1), vv] W fun e w' => e = .returned (.tuple #[.int .i64 a, .bool true]) ∧ Below W.heap.size W w')) (EN : Hid (∀ W, Below w.heap.size w W → Calls Tryd.prog 12 #[.slice (some ⟨bk, off, none⟩) n cap, .int .i64 ((i : Int) + 1)] W fun e w' => e = .returned (.int .i64 (en : Int)) ∧ Below W.heap.size W w')) (VB : Hid (∀ W, Below w.heap.size w W → Calls Tryd.prog 44 #[.slice (some ⟨bk, off, none⟩) n cap, .int .i64 (en : Int), vv] W fun e w' => e = .returned (.tuple #[.int .i64 b, .bool true]) ∧ Below W.heap.size W w')) :
    Calls Tryd.prog 44 #[.slice (some ⟨bk, off, none⟩) n cap, .int .i64 (i : Int), vv] w fun e w' => AnsW e (ansV (decide (a < b))) ∧ Below w.heap.size w w' := by
  by_cases c : a < b
  · rw [decide_eq_true c]
    have k0 : (0 : Int) ≤ (i : Int) := by omega
    have k1 : (i : Int) < (n : Int) := by omega
    have e1 : IntKind.i64.wrap ((i : Int) + 1) = (i : Int) + 1 := by rw [IntKind.wrap_i64]; omega
    go_enter Tryd.func44, Tryd.ntmps44
    go_wp2_with fail
    refine (VA.out _ (Below.refl _ _)).mono ?_
    rintro e w1 ⟨rfl, hb⟩
    have B1 := hideR (hb)
    clear hb VA
    go_wp2_with fail
    refine (EN.out _ B1.out).mono ?_
    rintro e w2 ⟨rfl, hb⟩
    have B2 := hideR (beyond B1.out hb)
    clear hb EN
    go_wp2_with fail
    refine (VB.out _ B2.out).mono ?_
    rintro e w3 ⟨rfl, hb⟩
    have B3 := hideR (beyond B2.out hb)
    clear hb VB
    go_wp2_with fail
    exact bodyPost_ret (v := .tuple #[.int .i64 (1), .bool true]) (by simp [results, Tryd.results44, go_sem]) rfl ⟨ansW_yes, B3.out⟩
  · rw [decide_eq_false c]
    have k0 : (0 : Int) ≤ (i : Int) := by omega
    have k1 : (i : Int) < (n : Int) := by omega
    have e1 : IntKind.i64.wrap ((i : Int) + 1) = (i : Int) + 1 := by rw [IntKind.wrap_i64]; omega
    go_enter Tryd.func44, Tryd.ntmps44
    go_wp2_with fail
    refine (VA.out _ (Below.refl _ _)).mono ?_
    rintro e w1 ⟨rfl, hb⟩
    have B1 := hideR (hb)
    clear hb VA
    go_wp2_with fail
    refine (EN.out _ B1.out).mono ?_
    rintro e w2 ⟨rfl, hb⟩
    have B2 := hideR (beyond B1.out hb)
    clear hb EN
    go_wp2_with fail
    refine (VB.out _ B2.out).mono ?_
    rintro e w3 ⟨rfl, hb⟩
    have B3 := hideR (beyond B2.out hb)
    clear hb VB
    go_wp2_with fail
    exact bodyPost_ret (v := .tuple #[.int .i64 (0), .bool true]) (by simp [results, Tryd.results44, go_sem]) rfl ⟨ansW_yes, B3.out⟩
set_option maxRecDepth 100000 in
theorem valAtMost (bk off cap i n en : Nat) (a b : Int) (vv : Value) (hi : i < n) (hn : n ≤ 64) (w : World) (x0 : w.cell? ⟨bk, off + i * 2, none⟩ = some (.int .u8 9)) (VA : Hid (∀ W, Below w.heap.size w W → Calls Tryd.prog 44 #[.slice (some ⟨bk, off, none⟩) n cap, .int .i64 ((i : Int) + 1), vv] W fun e w' => e = .returned (.tuple #[.int .i64 a, .bool true]) ∧ Below W.heap.size W w')) (EN : Hid (∀ W, Below w.heap.size w W → Calls Tryd.prog 12 #[.slice (some ⟨bk, off, none⟩) n cap, .int .i64 ((i : Int) + 1)] W fun e w' => e = .returned (.int .i64 (en : Int)) ∧ Below W.heap.size W w')) (VB : Hid (∀ W, Below w.heap.size w W → Calls Tryd.prog 44 #[.slice (some ⟨bk, off, none⟩) n cap, .int .i64 (en : Int), vv] W fun e w' => e = .returned (.tuple #[.int .i64 b, .bool true]) ∧ Below W.heap.size W w')) :
    Calls Tryd.prog 44 #[.slice (some ⟨bk, off, none⟩) n cap, .int .i64 (i : Int), vv] w fun e w' => AnsW e (ansV (decide (a ≤ b))) ∧ Below w.heap.size w w' := by
  by_cases c : a ≤ b
  · rw [decide_eq_true c]
    have k0 : (0 : Int) ≤ (i : Int) := by omega
    have k1 : (i : Int) < (n : Int) := by omega
    have e1 : IntKind.i64.wrap ((i : Int) + 1) = (i : Int) + 1 := by rw [IntKind.wrap_i64]; omega
    go_enter Tryd.func44, Tryd.ntmps44
    go_wp2_with fail
    refine (VA.out _ (Below.refl _ _)).mono ?_
    rintro e w1 ⟨rfl, hb⟩
    have B1 := hideR (hb)
    clear hb VA
    go_wp2_with fail
    refine (EN.out _ B1.out).mono ?_
    rintro e w2 ⟨rfl, hb⟩
    have B2 := hideR (beyond B1.out hb)
    clear hb EN
    go_wp2_with fail
    refine (VB.out _ B2.out).mono ?_
    rintro e w3 ⟨rfl, hb⟩
    have B3 := hideR (beyond B2.out hb)
    clear hb VB
    go_wp2_with fail
    exact bodyPost_ret (v := .tuple #[.int .i64 (1), .bool true]) (by simp [results, Tryd.results44, go_sem]) rfl ⟨ansW_yes, B3.out⟩
  · rw [decide_eq_false c]
    have k0 : (0 : Int) ≤ (i : Int) := by omega
    have k1 : (i : Int) < (n : Int) := by omega
    have e1 : IntKind.i64.wrap ((i : Int) + 1) = (i : Int) + 1 := by rw [IntKind.wrap_i64]; omega
    go_enter Tryd.func44, Tryd.ntmps44
    go_wp2_with fail
    refine (VA.out _ (Below.refl _ _)).mono ?_
    rintro e w1 ⟨rfl, hb⟩
    have B1 := hideR (hb)
    clear hb VA
    go_wp2_with fail
    refine (EN.out _ B1.out).mono ?_
    rintro e w2 ⟨rfl, hb⟩
    have B2 := hideR (beyond B1.out hb)
    clear hb EN
    go_wp2_with fail
    refine (VB.out _ B2.out).mono ?_
    rintro e w3 ⟨rfl, hb⟩
    have B3 := hideR (beyond B2.out hb)
    clear hb VB
    go_wp2_with fail
    exact bodyPost_ret (v := .tuple #[.int .i64 (0), .bool true]) (by simp [results, Tryd.results44, go_sem]) rfl ⟨ansW_yes, B3.out⟩
set_option maxRecDepth 100000 in
theorem valEqual (bk off cap i n en : Nat) (a b : Int) (vv : Value) (hi : i < n) (hn : n ≤ 64) (w : World) (x0 : w.cell? ⟨bk, off + i * 2, none⟩ = some (.int .u8 10)) (VA : Hid (∀ W, Below w.heap.size w W → Calls Tryd.prog 44 #[.slice (some ⟨bk, off, none⟩) n cap, .int .i64 ((i : Int) + 1), vv] W fun e w' => e = .returned (.tuple #[.int .i64 a, .bool true]) ∧ Below W.heap.size W w')) (EN : Hid (∀ W, Below w.heap.size w W → Calls Tryd.prog 12 #[.slice (some ⟨bk, off, none⟩) n cap, .int .i64 ((i : Int) + 1)] W fun e w' => e = .returned (.int .i64 (en : Int)) ∧ Below W.heap.size W w')) (VB : Hid (∀ W, Below w.heap.size w W → Calls Tryd.prog 44 #[.slice (some ⟨bk, off, none⟩) n cap, .int .i64 (en : Int), vv] W fun e w' => e = .returned (.tuple #[.int .i64 b, .bool true]) ∧ Below W.heap.size W w')) :
    Calls Tryd.prog 44 #[.slice (some ⟨bk, off, none⟩) n cap, .int .i64 (i : Int), vv] w fun e w' => AnsW e (ansV (a == b)) ∧ Below w.heap.size w w' := by
  by_cases c : a = b
  · subst c
    rw [show (a == a) = true by simp]
    have k0 : (0 : Int) ≤ (i : Int) := by omega
    have k1 : (i : Int) < (n : Int) := by omega
    have e1 : IntKind.i64.wrap ((i : Int) + 1) = (i : Int) + 1 := by rw [IntKind.wrap_i64]; omega
    go_enter Tryd.func44, Tryd.ntmps44
    go_wp2_with fail
    refine (VA.out _ (Below.refl _ _)).mono ?_
    rintro e w1 ⟨rfl, hb⟩
    have B1 := hideR (hb)
    clear hb VA
    go_wp2_with fail
    refine (EN.out _ B1.out).mono ?_
    rintro e w2 ⟨rfl, hb⟩
    have B2 := hideR (beyond B1.out hb)
    clear hb EN
    go_wp2_with fail
    refine (VB.out _ B2.out).mono ?_
    rintro e w3 ⟨rfl, hb⟩
    have B3 := hideR (beyond B2.out hb)
    clear hb VB
    go_wp2_with fail
    exact bodyPost_ret (v := .tuple #[.int .i64 (1), .bool true]) (by simp [results, Tryd.results44, go_sem]) rfl ⟨ansW_yes, B3.out⟩
  · have c1 : (a == b) = false := by simpa using c
    have c2 : (a != b) = true := by simpa using c
    rw [show (a == b) = false from c1]
    have k0 : (0 : Int) ≤ (i : Int) := by omega
    have k1 : (i : Int) < (n : Int) := by omega
    have e1 : IntKind.i64.wrap ((i : Int) + 1) = (i : Int) + 1 := by rw [IntKind.wrap_i64]; omega
    go_enter Tryd.func44, Tryd.ntmps44
    go_wp2_with fail
    refine (VA.out _ (Below.refl _ _)).mono ?_
    rintro e w1 ⟨rfl, hb⟩
    have B1 := hideR (hb)
    clear hb VA
    go_wp2_with fail
    refine (EN.out _ B1.out).mono ?_
    rintro e w2 ⟨rfl, hb⟩
    have B2 := hideR (beyond B1.out hb)
    clear hb EN
    go_wp2_with fail
    refine (VB.out _ B2.out).mono ?_
    rintro e w3 ⟨rfl, hb⟩
    have B3 := hideR (beyond B2.out hb)
    clear hb VB
    go_wp2_with fail
    exact bodyPost_ret (v := .tuple #[.int .i64 (0), .bool true]) (by simp [results, Tryd.results44, go_sem]) rfl ⟨ansW_yes, B3.out⟩
set_option maxRecDepth 100000 in
theorem valUnlike (bk off cap i n en : Nat) (a b : Int) (vv : Value) (hi : i < n) (hn : n ≤ 64) (w : World) (x0 : w.cell? ⟨bk, off + i * 2, none⟩ = some (.int .u8 11)) (VA : Hid (∀ W, Below w.heap.size w W → Calls Tryd.prog 44 #[.slice (some ⟨bk, off, none⟩) n cap, .int .i64 ((i : Int) + 1), vv] W fun e w' => e = .returned (.tuple #[.int .i64 a, .bool true]) ∧ Below W.heap.size W w')) (EN : Hid (∀ W, Below w.heap.size w W → Calls Tryd.prog 12 #[.slice (some ⟨bk, off, none⟩) n cap, .int .i64 ((i : Int) + 1)] W fun e w' => e = .returned (.int .i64 (en : Int)) ∧ Below W.heap.size W w')) (VB : Hid (∀ W, Below w.heap.size w W → Calls Tryd.prog 44 #[.slice (some ⟨bk, off, none⟩) n cap, .int .i64 (en : Int), vv] W fun e w' => e = .returned (.tuple #[.int .i64 b, .bool true]) ∧ Below W.heap.size W w')) :
    Calls Tryd.prog 44 #[.slice (some ⟨bk, off, none⟩) n cap, .int .i64 (i : Int), vv] w fun e w' => AnsW e (ansV (a != b)) ∧ Below w.heap.size w w' := by
  by_cases c : a = b
  · subst c
    rw [show (a != a) = false by simp]
    have k0 : (0 : Int) ≤ (i : Int) := by omega
    have k1 : (i : Int) < (n : Int) := by omega
    have e1 : IntKind.i64.wrap ((i : Int) + 1) = (i : Int) + 1 := by rw [IntKind.wrap_i64]; omega
    go_enter Tryd.func44, Tryd.ntmps44
    go_wp2_with fail
    refine (VA.out _ (Below.refl _ _)).mono ?_
    rintro e w1 ⟨rfl, hb⟩
    have B1 := hideR (hb)
    clear hb VA
    go_wp2_with fail
    refine (EN.out _ B1.out).mono ?_
    rintro e w2 ⟨rfl, hb⟩
    have B2 := hideR (beyond B1.out hb)
    clear hb EN
    go_wp2_with fail
    refine (VB.out _ B2.out).mono ?_
    rintro e w3 ⟨rfl, hb⟩
    have B3 := hideR (beyond B2.out hb)
    clear hb VB
    go_wp2_with fail
    exact bodyPost_ret (v := .tuple #[.int .i64 (0), .bool true]) (by simp [results, Tryd.results44, go_sem]) rfl ⟨ansW_yes, B3.out⟩
  · have c1 : (a == b) = false := by simpa using c
    have c2 : (a != b) = true := by simpa using c
    rw [show (a != b) = true from c2]
    have k0 : (0 : Int) ≤ (i : Int) := by omega
    have k1 : (i : Int) < (n : Int) := by omega
    have e1 : IntKind.i64.wrap ((i : Int) + 1) = (i : Int) + 1 := by rw [IntKind.wrap_i64]; omega
    go_enter Tryd.func44, Tryd.ntmps44
    go_wp2_with fail
    refine (VA.out _ (Below.refl _ _)).mono ?_
    rintro e w1 ⟨rfl, hb⟩
    have B1 := hideR (hb)
    clear hb VA
    go_wp2_with fail
    refine (EN.out _ B1.out).mono ?_
    rintro e w2 ⟨rfl, hb⟩
    have B2 := hideR (beyond B1.out hb)
    clear hb EN
    go_wp2_with fail
    refine (VB.out _ B2.out).mono ?_
    rintro e w3 ⟨rfl, hb⟩
    have B3 := hideR (beyond B2.out hb)
    clear hb VB
    go_wp2_with fail
    exact bodyPost_ret (v := .tuple #[.int .i64 (1), .bool true]) (by simp [results, Tryd.results44, go_sem]) rfl ⟨ansW_yes, B3.out⟩
set_option maxRecDepth 100000 in
theorem valSub (bk off cap i n en : Nat) (a b : Int) (vv : Value) (hi : i < n) (hn : n ≤ 64) (ha : inR a) (hb0 : inR b) (w : World) (x0 : w.cell? ⟨bk, off + i * 2, none⟩ = some (.int .u8 5)) (VA : Hid (∀ W, Below w.heap.size w W → Calls Tryd.prog 44 #[.slice (some ⟨bk, off, none⟩) n cap, .int .i64 ((i : Int) + 1), vv] W fun e w' => e = .returned (.tuple #[.int .i64 a, .bool true]) ∧ Below W.heap.size W w')) (EN : Hid (∀ W, Below w.heap.size w W → Calls Tryd.prog 12 #[.slice (some ⟨bk, off, none⟩) n cap, .int .i64 ((i : Int) + 1)] W fun e w' => e = .returned (.int .i64 (en : Int)) ∧ Below W.heap.size W w')) (VB : Hid (∀ W, Below w.heap.size w W → Calls Tryd.prog 44 #[.slice (some ⟨bk, off, none⟩) n cap, .int .i64 (en : Int), vv] W fun e w' => e = .returned (.tuple #[.int .i64 b, .bool true]) ∧ Below W.heap.size W w')) :
    Calls Tryd.prog 44 #[.slice (some ⟨bk, off, none⟩) n cap, .int .i64 (i : Int), vv] w fun e w' => AnsW e (holdV (a - b)) ∧ Below w.heap.size w w' := by
  have ST := sub_test a b ha hb0
  have AP := hideR (ansW_hold (a - b))
  generalize holdV (a - b) = hv at *
  generalize decide (inR (a - b)) = dr at *
  clear ha hb0
  by_cases c : 0 ≤ b
  · rw [if_pos c] at ST
    have c2 : ¬ b < 0 := by omega
    by_cases d : wrap64 (a - b) ≤ a
    · have hr : dr = true := by rw [← ST]; exact decide_eq_true d
      subst hr
      clear ST
      have k0 : (0 : Int) ≤ (i : Int) := by omega
      have k1 : (i : Int) < (n : Int) := by omega
      have e1 : IntKind.i64.wrap ((i : Int) + 1) = (i : Int) + 1 := by rw [IntKind.wrap_i64]; omega
      go_enter Tryd.func44, Tryd.ntmps44
      go_wp2_with fail
      refine (VA.out _ (Below.refl _ _)).mono ?_
      rintro e w1 ⟨rfl, hb⟩
      have B1 := hideR (hb)
      clear hb VA
      go_wp2_with fail
      refine (EN.out _ B1.out).mono ?_
      rintro e w2 ⟨rfl, hb⟩
      have B2 := hideR (beyond B1.out hb)
      clear hb EN
      go_wp2_with fail
      refine (VB.out _ B2.out).mono ?_
      rintro e w3 ⟨rfl, hb⟩
      have B3 := hideR (beyond B2.out hb)
      clear hb VB
      go_wp2_with fail
      exact bodyPost_ret (v := .tuple #[.int .i64 (wrap64 (a - b)), .bool true]) (by simp [results, Tryd.results44, go_sem]) rfl ⟨AP.out, B3.out⟩
    · have hr : dr = false := by rw [← ST]; exact decide_eq_false d
      subst hr
      clear ST
      have d2 : a < wrap64 (a - b) := by omega
      have k0 : (0 : Int) ≤ (i : Int) := by omega
      have k1 : (i : Int) < (n : Int) := by omega
      have e1 : IntKind.i64.wrap ((i : Int) + 1) = (i : Int) + 1 := by rw [IntKind.wrap_i64]; omega
      go_enter Tryd.func44, Tryd.ntmps44
      go_wp2_with fail
      refine (VA.out _ (Below.refl _ _)).mono ?_
      rintro e w1 ⟨rfl, hb⟩
      have B1 := hideR (hb)
      clear hb VA
      go_wp2_with fail
      refine (EN.out _ B1.out).mono ?_
      rintro e w2 ⟨rfl, hb⟩
      have B2 := hideR (beyond B1.out hb)
      clear hb EN
      go_wp2_with fail
      refine (VB.out _ B2.out).mono ?_
      rintro e w3 ⟨rfl, hb⟩
      have B3 := hideR (beyond B2.out hb)
      clear hb VB
      go_wp2_with fail
      exact bodyPost_ret (v := .tuple #[.int .i64 (wrap64 (a - b)), .bool false]) (by simp [results, Tryd.results44, go_sem, d2]) rfl ⟨AP.out, B3.out⟩
  · rw [if_neg c] at ST
    have c2 : b < 0 := by omega
    by_cases d : a < wrap64 (a - b)
    · have hr : dr = true := by rw [← ST]; exact decide_eq_true d
      subst hr
      clear ST
      have k0 : (0 : Int) ≤ (i : Int) := by omega
      have k1 : (i : Int) < (n : Int) := by omega
      have e1 : IntKind.i64.wrap ((i : Int) + 1) = (i : Int) + 1 := by rw [IntKind.wrap_i64]; omega
      go_enter Tryd.func44, Tryd.ntmps44
      go_wp2_with fail
      refine (VA.out _ (Below.refl _ _)).mono ?_
      rintro e w1 ⟨rfl, hb⟩
      have B1 := hideR (hb)
      clear hb VA
      go_wp2_with fail
      refine (EN.out _ B1.out).mono ?_
      rintro e w2 ⟨rfl, hb⟩
      have B2 := hideR (beyond B1.out hb)
      clear hb EN
      go_wp2_with fail
      refine (VB.out _ B2.out).mono ?_
      rintro e w3 ⟨rfl, hb⟩
      have B3 := hideR (beyond B2.out hb)
      clear hb VB
      go_wp2_with fail
      exact bodyPost_ret (v := .tuple #[.int .i64 (wrap64 (a - b)), .bool true]) (by simp [results, Tryd.results44, go_sem]) rfl ⟨AP.out, B3.out⟩
    · have hr : dr = false := by rw [← ST]; exact decide_eq_false d
      subst hr
      clear ST
      have d2 : wrap64 (a - b) ≤ a := by omega
      have k0 : (0 : Int) ≤ (i : Int) := by omega
      have k1 : (i : Int) < (n : Int) := by omega
      have e1 : IntKind.i64.wrap ((i : Int) + 1) = (i : Int) + 1 := by rw [IntKind.wrap_i64]; omega
      go_enter Tryd.func44, Tryd.ntmps44
      go_wp2_with fail
      refine (VA.out _ (Below.refl _ _)).mono ?_
      rintro e w1 ⟨rfl, hb⟩
      have B1 := hideR (hb)
      clear hb VA
      go_wp2_with fail
      refine (EN.out _ B1.out).mono ?_
      rintro e w2 ⟨rfl, hb⟩
      have B2 := hideR (beyond B1.out hb)
      clear hb EN
      go_wp2_with fail
      refine (VB.out _ B2.out).mono ?_
      rintro e w3 ⟨rfl, hb⟩
      have B3 := hideR (beyond B2.out hb)
      clear hb VB
      go_wp2_with fail
      exact bodyPost_ret (v := .tuple #[.int .i64 (wrap64 (a - b)), .bool false]) (by simp [results, Tryd.results44, go_sem, d2]) rfl ⟨AP.out, B3.out⟩
end Go.Proofs.YtmnhbokiibaopaaDoor
