/-
  The contracts of alike, Zone.Equal, Includes.
-/
import Derived.Test.YtfamdajjfpjlaaaDoorDi
import Derived.Deep.MidRow
import Derived.Laws.StructEq
namespace Go.Proofs.YtfamdajjfpjlaaaDoor
open Go.RowKit
set_option linter.unusedVariables false
set_option maxRecDepth 100000
theorem alike_raw (b o : Nat) (n m : Int) (w : World) (h1 : w.cell? ⟨b, 0, none⟩ = some (.int .i64 n)) (h2 : w.cell? ⟨o, 0, none⟩ = some (.int .i64 m)) :
    Calls Tryd.prog 89 #[.pointer (some ⟨b, 0, none⟩), .pointer (some ⟨o, 0, none⟩)] w fun e w' => e = .returned (.bool (n == m)) ∧ ∃ k, w' = w.drewN k := by
  go_enter Tryd.func89, Tryd.ntmps89
  go_wp2_with fail
  go_quiet (fail)
  go_wp2_with fail
  go_ret
  exact ⟨rfl, _, rfl⟩
theorem alike_same (b o n : Nat) (c d : Row) (w : World) (hz : ZoneAt w b n c) (hy : ZoneAt w o n d) :
    Calls Tryd.prog 89 #[.pointer (some ⟨b, 0, none⟩), .pointer (some ⟨o, 0, none⟩)] w fun e w' => e = .returned (.bool true) ∧ ∃ k, w' = w.drewN k := by
  have := alike_raw b o n n w hz.clocks hy.clocks
  simpa using this
/-- Are two rows the same at the first m places? -/
def eqUpto (c d : Row) (m : Nat) : Bool := (List.range m).all fun i => c i == d i
theorem run_eql_row (c d : Row) (w : World) :
    (binOp .eql 138 (.agg ((listOf c 81).map (Value.int .i32)).toArray) (.agg ((listOf d 81).map (Value.int .i32)).toArray)).run Tryd.prog w = .ok (.bool (eqUpto c d 81)) w := by
  have hu : Tryd.prog.underlying 138 = some (.array 81 79) := by kernel_rfl
  have he : Tryd.prog.underlying 79 = some (.int .i32) := by kernel_rfl
  have hs : ∀ w, (Go.sizeOf 79).run Tryd.prog w = .ok 1 w := fun w => by kernel_rfl
  rw [run_eql_struct, Op.equalIn]
  simp only [Sem.run_bind, run_underlying hu, Result.andThen_ok, hs, Std.Legacy.Range.forIn_eq_forIn_range', Std.Legacy.Range.size, Nat.sub_zero, Nat.add_sub_cancel, Nat.div_one]
  rw [eqUpto, List.range_eq_range']
  have hl : ∀ i ∈ List.range' 0 81, i < 81 := fun i hi => by simpa using (List.mem_range'_1.1 hi).2
  generalize List.range' 0 81 = l at hl ⊢
  induction l with
  | nil => simp
  | cons i l ih =>
    have hi : i < 81 := hl i (by simp)
    have px : (part 79 ((listOf c 81).map (Value.int .i32)).toArray (i * 1)).run Tryd.prog w = .ok (.int .i32 (c i)) w := by simp [part, isAgg, run_underlying he, listOf, hi]
    have py : (part 79 ((listOf d 81).map (Value.int .i32)).toArray (i * 1)).run Tryd.prog w = .ok (.int .i32 (d i)) w := by simp [part, isAgg, run_underlying he, listOf, hi]
    have pe : (Op.equalIn 9999 79 (.int .i32 (c i)) (.int .i32 (d i))).run Tryd.prog w = .ok (c i == d i) w := run_equalIn_int w 9998 _ .i32 .i32 _ _ he
    simp only [List.forIn_cons, Sem.run_bind, px, py, pe, Result.andThen_ok, List.all_cons]
    cases hb : (c i == d i)
    · simp
    · simp only [Bool.not_true, Bool.false_eq_true, if_false, Sem.run_pure, Result.andThen_ok, Bool.true_and]
      exact ih fun j hj => hl j (by simp [hj])
theorem load_row (b n : Nat) (c : Row) (w : World) (hz : ZoneAt w b n c) :
    (Instr.loadAt 138 (.pointer (some ⟨b, 1, none⟩))).run Tryd.prog w = .ok (.agg ((listOf c 81).map (Value.int .i32)).toArray) w := by
  refine run_loadAt_mid w b 1 _ _ (.array 81 79) ?_ (by kernel_rfl) rfl (by rw [List.length_map, listOf_len]; kernel_rfl)
  intro j v hv
  by_cases hj : j < 81
  · rw [hz.cell j hj]
    simp [listOf, hj] at hv
    simp [hv]
  · rw [List.getElem?_eq_none (by simp [listOf_len]; omega)] at hv
    cases hv
theorem includes_some (b o n : Nat) (c d : Row) (w : World) (hz : ZoneAt w b n c) (hy : ZoneAt w o n d) (hn : n ≤ 8) (hd : decide (d 0 < 1) = false) :
    Calls Tryd.prog 43 #[.pointer (some ⟨b, 0, none⟩), .pointer (some ⟨o, 0, none⟩)] w fun e w' => e = .returned (.bool (nless c d ((n + 1) * (n + 1)))) ∧ Below w.heap.size w w' := by
  have HA := hideD (alike_same b o n c d w hz hy)
  have HH : Hid (∀ w', Below w.heap.size w w' → Calls Tryd.prog 90 #[.pointer (some ⟨o, 0, none⟩)] w' fun e w'' => e = .returned (.bool (decide (d 0 < 1))) ∧ Below w'.heap.size w' w'') := fun w' hb => hollow_any o n d w' hn (hy.past hb)
  have HN : Hid (∀ w', Below w.heap.size w w' → Calls Tryd.prog 91 #[.pointer (some ⟨b, 0, none⟩), .pointer (some ⟨o, 0, none⟩)] w' fun e w'' => e = .returned (.bool (nless c d ((n + 1) * (n + 1)))) ∧ Below w'.heap.size w' w'') := fun w' hb => nless_any b o n c d w' hn (hz.past hb) (hy.past hb)
  generalize nless c d ((n + 1) * (n + 1)) = q at *
  clear hz hy
  rw [hd] at HH
  go_enter Tryd.func43, Tryd.ntmps43
  go_wp2_with fail
  refine HA.out.mono ?_
  rintro e w1 ⟨rfl, k, rfl⟩
  have B1 := hideD (below_draw w k)
  generalize w.drewN k = W at *
  go_wp2_with fail
  have B2 := B1.out
  go_region_held3 (fun w' => Below w.heap.size w w')
    (first | assumption | exact Below.drew (by assumption))
    (first
      | (go_at_call 90; refine (HH.out _ (by first | assumption | exact Below.drew (by assumption))).mono ?_; rintro e w' ⟨rfl, hb⟩; have h3 := beyondD (w := w) (by first | assumption | exact Below.drew (by assumption)) hb)
      | (go_at_call 91; refine (HN.out _ (by first | assumption | exact Below.drew (by assumption))).mono ?_; rintro e w' ⟨rfl, hb⟩; have h4 := beyondD (w := w) (by first | assumption | exact Below.drew (by assumption)) hb))
  all_goals
    go_wp2_with fail
    go_ret
    exact ⟨by first | rfl | simp, by assumption⟩
end Go.Proofs.YtfamdajjfpjlaaaDoor
