/-
  The walk of the law BoundSums: for every two bounds and every row of them it returns true, and nothing that was there has turned; the conditions: the row takes at most 2^47 bytes (the form's own reach), and the library's table of powers of ten lies as its text lays it.
-/
import Derived.Test.YtaagfiebcnnjjaaDoorBt
import Derived.Test.YtaagfiebcnnjjaaDoorBs
import Derived.OpenShut
namespace Go.Proofs.YtaagfiebcnnjjaaDoor
open Go.RowKit
set_option linter.unusedVariables false

theorem sum_nil (ad : Option Addr) (c : Nat) (w : World) : Calls Tryd.prog 19 #[.slice ad 0 c] w fun e w' => e = .returned (.tuple #[.int .i32 (sumB []), .int .i64 (sumE [])]) ∧ w' = w := by
  have e1 : sumB [] = ofB 0 true := by decide
  have e2 : sumE [] = ofE 0 := by decide
  rw [e1, e2]
  clear e1 e2
  go_enter Tryd.func19, Tryd.ntmps19
  go_wp2_with fail
  refine wp_loop_rounds 1 ?_
  rw [rounds_succ]
  go_wp2_with (go_at_call 30; refine (of_any _ _ _).mono ?_; rintro e w' ⟨rfl, rfl⟩)
  go_ret2
  exact ⟨rfl, rfl⟩
theorem rsum_nil (ad : Option Addr) (c : Nat) (w : World) : Calls Tryd.prog 20 #[.slice ad 0 c] w fun e w' => e = .returned (.tuple #[.int .i32 (sumB []), .int .i64 (sumE [])]) ∧ w' = w := by
  have e1 : sumB [] = ofB 0 true := by decide
  have e2 : sumE [] = ofE 0 := by decide
  rw [e1, e2]
  clear e1 e2
  go_enter Tryd.func20, Tryd.ntmps20
  go_wp2_with fail
  refine wp_loop_rounds 1 ?_
  rw [rounds_succ]
  go_wp2_with fail
  refine wp_loop_rounds 1 ?_
  rw [rounds_succ]
  go_wp2_with (go_at_call 31; refine (rof_any _ _ _).mono ?_; rintro e w' ⟨rfl, rfl⟩)
  go_ret2
  exact ⟨rfl, rfl⟩
theorem rleast_nil (ad : Option Addr) (c : Nat) (w : World) : Calls Tryd.prog 24 #[.slice ad 0 c] w fun e w' => e = .returned (.int .i32 (leastV [])) ∧ w' = w := by
  go_enter Tryd.func24, Tryd.ntmps24
  go_wp2_with fail
  refine wp_loop_rounds 1 ?_
  rw [rounds_succ]
  go_wp2_with fail
  go_ret
  exact ⟨rfl, rfl⟩

/-- A row of bounds: nil, or cells behind an address. -/
def RowAt (w : World) (v : Value) (l : List Int) : Prop :=
  (∃ ad c, v = .slice ad 0 c ∧ l = []) ∨ ∃ b off cap, v = .slice (some ⟨b, off, none⟩) l.length cap ∧ ∀ j, j < l.length → w.cell? ⟨b, off + j, none⟩ = some (.int .i32 (l.getD j 0))
theorem cell_after {w wx : World} {a : Addr} {v : Value} (hb : Below w.heap.size w wx) (h : w.cell? a = some v) : wx.cell? a = some v := (hb.cell (World.block_lt_of_cell? _ _ h)).trans h
theorem RowAt.later {w w' : World} {v : Value} {l : List Int} (h : RowAt w v l) (hb : Below w.heap.size w w') : RowAt w' v l := by
  rcases h with h | ⟨b, off, cap, rfl, hc⟩
  · exact .inl h
  · exact .inr ⟨b, off, cap, rfl, fun j hj => cell_after hb (hc j hj)⟩
theorem sum_row {w : World} {v : Value} {l : List Int} (h : RowAt w v l) (hbig : l.length ≤ 9223372036854775807) :
    Calls Tryd.prog 19 #[v] w fun e w' => e = .returned (.tuple #[.int .i32 (sumB l), .int .i64 (sumE l)]) ∧ w' = w := by
  rcases h with ⟨ad, c, rfl, rfl⟩ | ⟨b, off, cap, rfl, hc⟩
  · exact sum_nil ad c w
  · exact sum_any b off cap l w hbig hc
theorem rsum_row {w : World} {v : Value} {l : List Int} (h : RowAt w v l) (hbig : l.length ≤ 9223372036854775807) (hw : ∀ j, -2147483648 ≤ l.getD j 0 ∧ l.getD j 0 ≤ 2147483647) :
    Calls Tryd.prog 20 #[v] w fun e w' => e = .returned (.tuple #[.int .i32 (sumB l), .int .i64 (sumE l)]) ∧ w' = w := by
  rcases h with ⟨ad, c, rfl, rfl⟩ | ⟨b, off, cap, rfl, hc⟩
  · exact rsum_nil ad c w
  · exact rsum_any b off cap l w hbig hw hc
theorem fold_row {w : World} {v : Value} {l : List Int} (h : RowAt w v l) (hbig : l.length ≤ 9223372036854775807) :
    Calls Tryd.prog 33 #[.int .i32 2147483647, v, .func (Fn.func 34) #[] #[]] w fun e w' => e = .returned (.int .i32 (leastV l)) ∧ w' = w := by
  rcases h with ⟨ad, c, rfl, rfl⟩ | ⟨b, off, cap, rfl, hc⟩
  · exact fold_nil ad c w
  · exact fold_any b off cap l w hbig hc
theorem least_row {w : World} {v : Value} {l : List Int} (h : RowAt w v l) (hbig : l.length ≤ 9223372036854775807) :
    Calls Tryd.prog 23 #[v] w fun e w' => e = .returned (.int .i32 (leastV l)) ∧ w' = w := by
  go_enter Tryd.func23, Tryd.ntmps23
  go_wp2_with (go_at_call 33; refine (fold_row h hbig).mono ?_; rintro e w' ⟨rfl, rfl⟩)
  go_ret
  exact ⟨rfl, rfl⟩
theorem rleast_row {w : World} {v : Value} {l : List Int} (h : RowAt w v l) (hbig : l.length ≤ 9223372036854775807) :
    Calls Tryd.prog 24 #[v] w fun e w' => e = .returned (.int .i32 (leastV l)) ∧ w' = w := by
  rcases h with ⟨ad, c, rfl, rfl⟩ | ⟨b, off, cap, rfl, hc⟩
  · exact rleast_nil ad c w
  · exact rleast_any b off cap l w hbig hc
theorem info_bound : (Tryd.prog.info? 22).map (fun i => (i.zero, i.size, i.bytes)) = some (some (.int .i32 0), 1, 4) := by kernel_rfl

namespace boundSums
theorem row_of_owned {w : World} {base : Nat} {e : TypeId} {v : Value} {l : List Int} (h : w.ownsRow base e 1 v l.length (l.map (Value.int .i32))) : RowAt w v l := by
  rcases h.2 with ⟨rfl, hn⟩ | ⟨g, cap, cur, rfl, hb, hg, hl, hm, hs, hx⟩
  · exact .inl ⟨none, 0, rfl, List.length_eq_zero_iff.1 hn⟩
  · refine .inr ⟨g, 0, cap, rfl, fun j hj => ?_⟩
    have hc := World.ownsRow.cells h (g := g) rfl j (.int .i32 (l.getD j 0)) (by simp [List.getD, hj])
    rw [Addr.add_lit] at hc
    exact hc

set_option maxHeartbeats 1000000 in
theorem walk_full (a : Int) (b : Int) (bk off cap : Nat) (l : List Int) (w : World) (a0 : -2147483648 ≤ a) (a1 : a ≤ 2147483647) (b0 : -2147483648 ≤ b) (b1 : b ≤ 2147483647)
    (hbytes : l.length * 4 ≤ 140737488355328) (hw : ∀ j, -2147483648 ≤ l.getD j 0 ∧ l.getD j 0 ≤ 2147483647)
    (hc : ∀ j, j < l.length → w.cell? ⟨bk, off + j, none⟩ = some (.int .i32 (l.getD j 0))) (ht : Pow w) (hpos : 0 < l.length) :
    Calls Tryd.prog 4 #[.int .i32 a, .int .i32 b, .slice (some ⟨bk, off, none⟩) l.length cap] w fun e w' => e = .returned (.bool true) ∧ Below w.heap.size w w' := by
  have hrow : RowAt w (.slice (some ⟨bk, off, none⟩) l.length cap) l := .inr ⟨bk, off, cap, rfl, hc⟩
  have hbig : l.length ≤ 9223372036854775807 := by omega
  have HN : Hid (∀ j u, (l.map (Value.int .i32))[j]? = some u → w.cell? ((⟨bk, off, none⟩ : Addr).add j) = some u) := by
    intro j u hu
    rw [Addr.add_lit]
    by_cases hj : j < l.length
    · rw [hc j hj]
      simp [hj] at hu
      simp [List.getD, hj, hu]
    · rw [List.getElem?_eq_none (by simp; omega)] at hu
      cases hu
  obtain ⟨i0, hi, hz0, hz1, hz2⟩ := info_parts info_bound
  have hcW : Hid (∀ j, j < l.length → w.cell? ⟨bk, off + j, none⟩ = some (.int .i32 (l.getD j 0))) := hc
  clear hc
  go_enter Tryd.func4, Tryd.ntmps4
  go_wp2_with (at_builtin; refine wpList_append_own _ rfl _ _ 31 rfl w.heap.size 22 i0 (.int .i32 0) 1 4 Tryd.underlying31 hi hz0 hz1 hz2 rfl (by decide) _ 0 [] rfl (World.ownsRow_nil _ _ _ _) ⟨bk, off, none⟩ l.length cap (l.map (Value.int .i32)) rfl (by simp) HN.out (fun x hx => by obtain ⟨z, _, rfl⟩ := List.mem_map.1 hx; rfl) (by unfold maxLen; omega) (by omega) (Nat.le_refl _) ?_; intro v' w1 hown hgrow hnil)
  have hb1 : Below w.heap.size w w1 := (Below.refl _ _).grown hgrow (Nat.le_refl _) (by intro k hk; cases hk)
  have hr1 : RowAt w1 v' l := row_of_owned (by simpa using hown)
  have hl1 := hrow.later hb1
  have ht1 := pow_later ht hb1
  have hex : ∃ g o c', v' = .slice (some ⟨g, o, none⟩) l.length c' ∧ ∀ j, j < l.length → w1.cell? ⟨g, o + j, none⟩ = some (.int .i32 (l.getD j 0)) := by
    rcases hr1 with ⟨_, _, _, h⟩ | ⟨g, o, c', h, hc⟩
    · subst h; simp at hpos
    · exact ⟨g, o, c', h, hc⟩
  obtain ⟨g, o, c', hv, hcO⟩ := hex
  have hcL : ∀ j, j < l.length → w1.cell? ⟨bk, off + j, none⟩ = some (.int .i32 (l.getD j 0)) := fun j hj => cell_after hb1 (hcW.out j hj)
  subst hv
  have HO : Hid (∀ j, j < l.length → w1.cell? ⟨g, o + j, none⟩ = some (.int .i32 (l.getD j 0))) := hcO
  have HL : Hid (∀ j, j < l.length → w1.cell? ⟨bk, off + j, none⟩ = some (.int .i32 (l.getD j 0))) := hcL
  clear hcO hcL hown hgrow hnil hi hz0 hz1 hz2 hcW HN hrow ht
  have hb2 := Below.refl w1.heap.size w1
  refine (from_below (add_any _ _ _) hb2).mono ?_
  rintro e w2 ⟨rfl, hb2⟩
  go_wp2_with fail
  refine (from_below (radd_any _ _ _ a0 a1 b0 b1) hb2).mono ?_
  rintro e w3 ⟨rfl, hb3⟩
  have hr3 := hr1.later hb3
  have hl3 := hl1.later hb3
  go_wp2_with fail
  refine (sum_row hr3 hbig).mono ?_
  rintro e w4 ⟨rfl, rfl⟩
  go_wp2_with fail
  refine (rsum_row hl3 hbig hw).mono ?_
  rintro e w5 ⟨rfl, rfl⟩
  go_wp2_with fail
  refine (not_any _ _).mono ?_
  rintro e w6 ⟨rfl, rfl⟩
  go_wp2_with fail
  refine (rnot_any _ _ a0 a1).mono ?_
  rintro e w7 ⟨rfl, rfl⟩
  go_wp2_with fail
  refine (from_below (live_any _ (pow_later ht1 hb3)) hb3).mono ?_
  rintro e w8 ⟨rfl, hb8⟩
  go_wp2_with fail
  refine (least_row (hr1.later hb8) hbig).mono ?_
  rintro e w9 ⟨rfl, rfl⟩
  go_wp2_with fail
  refine (rleast_row (hl1.later hb8) hbig).mono ?_
  rintro e w10 ⟨rfl, rfl⟩
  clear hr3 hl3 hr1 hl1 hw
  go_wp2_with fail
  go_loopw [20] (fun j wr => ∃ (k : Nat), k ≤ l.length ∧ j = .int .i64 k ∧ Below w1.heap.size w1 wr) (fun j _ => l.length - (intOf j).toNat)
  case atStart => exact ⟨0, Nat.zero_le _, rfl, hb8⟩
  case round =>
    obtain ⟨k, hk, rfl, hbr⟩ := hrel
    by_cases hlt : k < l.length
    · have h1 := cell_after hbr (HO.out k hlt)
      have h2 := cell_after hbr (HL.out k hlt)
      generalize l.getD k 0 = x at h1 h2
      go_wp2_with fail
      go_quiet (fail)
      go_wp2
      go_roundw
      case rel => exact ⟨k + 1, by omega, by go_num, below_drewN hbr _⟩
      case measure => simp [intOf]; omega
    · go_wp2_with fail
      go_ret
      exact ⟨rfl, below_after hb1 hbr⟩

set_option maxHeartbeats 1000000 in
theorem walk_nil (a : Int) (b : Int) (w : World) (a0 : -2147483648 ≤ a) (a1 : a ≤ 2147483647) (b0 : -2147483648 ≤ b) (b1 : b ≤ 2147483647) (ht : Pow w) :
    Calls Tryd.prog 4 #[.int .i32 a, .int .i32 b, .slice none 0 0] w fun e w' => e = .returned (.bool true) ∧ Below w.heap.size w w' := by
  have HR : Hid (∀ w : World, RowAt w (.slice none 0 0) []) := fun w => .inl ⟨_, _, rfl, rfl⟩
  have HV := HR
  have hb1 := Below.refl w.heap.size w
  go_enter Tryd.func4, Tryd.ntmps4
  go_wp2_with fail
  refine (from_below (add_any _ _ _) hb1).mono ?_
  rintro e w2 ⟨rfl, hb2⟩
  go_wp2_with fail
  refine (from_below (radd_any _ _ _ a0 a1 b0 b1) hb2).mono ?_
  rintro e w3 ⟨rfl, hb3⟩
  go_wp2_with fail
  refine (sum_row (HR.out _) (by simp)).mono ?_
  rintro e w4 ⟨rfl, rfl⟩
  go_wp2_with fail
  refine (rsum_row (HV.out _) (by simp) (by simp)).mono ?_
  rintro e w5 ⟨rfl, rfl⟩
  go_wp2_with fail
  refine (not_any _ _).mono ?_
  rintro e w6 ⟨rfl, rfl⟩
  go_wp2_with fail
  refine (rnot_any _ _ a0 a1).mono ?_
  rintro e w7 ⟨rfl, rfl⟩
  go_wp2_with fail
  refine (from_below (live_any _ (pow_later ht hb3)) hb3).mono ?_
  rintro e w8 ⟨rfl, hb8⟩
  go_wp2_with fail
  refine (least_row (HR.out _) (by simp)).mono ?_
  rintro e w9 ⟨rfl, rfl⟩
  go_wp2_with fail
  refine (rleast_row (HV.out _) (by simp)).mono ?_
  rintro e w10 ⟨rfl, rfl⟩
  go_wp2_with fail
  refine wp_loop_rounds 1 ?_
  rw [rounds_succ]
  go_wp2_with fail
  go_ret
  exact ⟨rfl, hb8⟩

set_option maxHeartbeats 1000000 in
theorem walk_zero (a : Int) (b : Int) (ad : Addr) (cap : Nat) (w : World) (a0 : -2147483648 ≤ a) (a1 : a ≤ 2147483647) (b0 : -2147483648 ≤ b) (b1 : b ≤ 2147483647) (ht : Pow w) :
    Calls Tryd.prog 4 #[.int .i32 a, .int .i32 b, .slice (some ad) 0 cap] w fun e w' => e = .returned (.bool true) ∧ Below w.heap.size w w' := by
  have HR : Hid (∀ w : World, RowAt w (.slice none 0 0) []) := fun w => .inl ⟨_, _, rfl, rfl⟩
  have HV : Hid (∀ w : World, RowAt w (.slice (some ad) 0 cap) []) := fun w => .inl ⟨_, _, rfl, rfl⟩
  obtain ⟨i0, hi, hz0, hz1, hz2⟩ := info_parts info_bound
  go_enter Tryd.func4, Tryd.ntmps4
  go_wp2_with (at_builtin; refine wpList_append_own _ rfl _ _ 31 rfl w.heap.size 22 i0 (.int .i32 0) 1 4 Tryd.underlying31 hi hz0 hz1 hz2 rfl (by decide) (.slice none 0 0) 0 [] rfl (World.ownsRow_nil _ _ _ _) ad 0 cap [] rfl rfl (fun j u h => by simp at h) (fun x hx => by simp at hx) (by decide) (by decide) (Nat.le_refl _) ?_; intro v' w1 hown hgrow hnil)
  have hb1 : Below w.heap.size w w1 := (Below.refl _ _).grown hgrow (Nat.le_refl _) (by intro k hk; cases hk)
  have hv : v' = .slice none 0 0 := by simpa using hnil
  subst hv
  clear hown hgrow hnil hi hz0 hz1 hz2
  refine (from_below (add_any _ _ _) hb1).mono ?_
  rintro e w2 ⟨rfl, hb2⟩
  go_wp2_with fail
  refine (from_below (radd_any _ _ _ a0 a1 b0 b1) hb2).mono ?_
  rintro e w3 ⟨rfl, hb3⟩
  go_wp2_with fail
  refine (sum_row (HR.out _) (by simp)).mono ?_
  rintro e w4 ⟨rfl, rfl⟩
  go_wp2_with fail
  refine (rsum_row (HV.out _) (by simp) (by simp)).mono ?_
  rintro e w5 ⟨rfl, rfl⟩
  go_wp2_with fail
  refine (not_any _ _).mono ?_
  rintro e w6 ⟨rfl, rfl⟩
  go_wp2_with fail
  refine (rnot_any _ _ a0 a1).mono ?_
  rintro e w7 ⟨rfl, rfl⟩
  go_wp2_with fail
  refine (from_below (live_any _ (pow_later ht hb3)) hb3).mono ?_
  rintro e w8 ⟨rfl, hb8⟩
  go_wp2_with fail
  refine (least_row (HR.out _) (by simp)).mono ?_
  rintro e w9 ⟨rfl, rfl⟩
  go_wp2_with fail
  refine (rleast_row (HV.out _) (by simp)).mono ?_
  rintro e w10 ⟨rfl, rfl⟩
  go_wp2_with fail
  refine wp_loop_rounds 1 ?_
  rw [rounds_succ]
  go_wp2_with fail
  go_ret
  exact ⟨rfl, hb8⟩

/-- The law over every row. -/
theorem walk (a : Int) (ha : (Lit.int .i32 a).wf = true) (b : Int) (hb : (Lit.int .i32 b).wf = true) (v : Value) (l : List Int) (w : World) (ht : Pow w) (hrow : RowAt w v l) (hw : ∀ z ∈ l, (Lit.int .i32 z).wf = true) (hbytes : l.length * 4 ≤ 140737488355328) (hnil : ∀ {c}, v = .slice none 0 c → c = 0) :
    Calls Tryd.prog 4 #[.int .i32 a, .int .i32 b, v] w fun e w' => e = .returned (.bool true) ∧ Below w.heap.size w w' := by
  obtain ⟨a0, a1⟩ := bounds_i32 ha
  obtain ⟨b0, b1⟩ := bounds_i32 hb
  have hw' : ∀ j, -2147483648 ≤ l.getD j 0 ∧ l.getD j 0 ≤ 2147483647 := by
    intro j
    by_cases hj : j < l.length
    · have := bounds_i32 (hw l[j] (List.getElem_mem hj))
      simpa [List.getD, hj] using this
    · simp [List.getD, List.getElem?_eq_none (Nat.le_of_not_lt hj)]
  rcases hrow with ⟨ad, c, rfl, rfl⟩ | ⟨bk, off, cap, rfl, hc⟩
  · cases ad with
    | none =>
      obtain rfl : c = 0 := hnil rfl
      exact walk_nil a b w a0 a1 b0 b1 ht
    | some ad => exact walk_zero a b ad c w a0 a1 b0 b1 ht
  · by_cases hpos : 0 < l.length
    · exact walk_full a b bk off cap l w a0 a1 b0 b1 hbytes hw' hc ht hpos
    · have hl : l = [] := List.length_eq_zero_iff.1 (by omega)
      subst hl
      exact walk_zero a b ⟨bk, off, none⟩ cap w a0 a1 b0 b1 ht
end boundSums
end Go.Proofs.YtaagfiebcnnjjaaDoor
