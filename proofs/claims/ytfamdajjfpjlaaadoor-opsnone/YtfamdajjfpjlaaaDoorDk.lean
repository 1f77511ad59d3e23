/-
  The contract of Zone.Equal: the two arrays are read and compared as wholes.
-/
import Derived.Test.YtfamdajjfpjlaaaDoorDj
namespace Go.Proofs.YtfamdajjfpjlaaaDoor
open Go.RowKit
set_option linter.unusedVariables false
set_option maxRecDepth 100000
theorem quiet_load {P : Program} {C : World → Prop} {a : Act} {o : Oper} {K : Act → Prop} (t : TypeId) (x : Operand) (h : o.op = .load t x) (p : Addr) (hx : a.eval x = .pointer (some p)) (v : Value) (hl : ∀ w, C w → (Instr.loadAt t (.pointer (some p))).run P w = .ok v w) (hk : K (a.put o.dst v)) : o.quiet P a C K := by
  refine ⟨v, fun w hw => ?_, hk⟩
  unfold Oper.quietAt execOp
  simp only [h, hx, Sem.run_bind, hl w hw, Result.andThen_ok, Sem.run_pure]
  exact ⟨rfl, rfl⟩
theorem quiet_eql {P : Program} {C : World → Prop} {a : Act} {o : Oper} {K : Act → Prop} (t u : TypeId) (x y : Operand) (h : o.op = .binOp .eql t x y u) (p q : Array Value) (hx : a.eval x = .agg p) (hy : a.eval y = .agg q) (hg : P.eqGuardType P.depth t = false) (v : Value) (hl : ∀ w, C w → (binOp .eql t (.agg p) (.agg q)).run P w = .ok v w) (hk : K (a.put o.dst v)) : o.quiet P a C K := by
  refine ⟨v, fun w hw => ?_, hk⟩
  have g : (eqGuard BinOp.eql t x y (.agg p) (.agg q)).run P w = .ok () w := by
    simp [eqGuard, Sem.run_bind, hg]
  unfold Oper.quietAt execOp
  simp only [h, hx, hy, Sem.run_bind, Sem.run_pure, g, Result.andThen_ok, hl w hw]
  exact ⟨rfl, rfl⟩
set_option maxHeartbeats 2000000 in
theorem equal_any (b o n : Nat) (c d : Row) (w : World) (hz : ZoneAt w b n c) (hy : ZoneAt w o n d) :
    Calls Tryd.prog 42 #[.pointer (some ⟨b, 0, none⟩), .pointer (some ⟨o, 0, none⟩)] w fun e w' => e = .returned (.bool (eqUpto c d 81)) ∧ ∃ k, w' = w.drewN k := by
  have HA : Hid (∀ k, Calls Tryd.prog 89 #[.pointer (some ⟨b, 0, none⟩), .pointer (some ⟨o, 0, none⟩)] (w.drewN k) fun e w' => e = .returned (.bool true) ∧ ∃ k', w' = (w.drewN k).drewN k') := fun k => alike_same b o n c d _ (hz.drewN k) (hy.drewN k)
  have L1 : Hid (∀ w', (∃ k, w' = w.drewN k) → (Instr.loadAt 138 (.pointer (some ⟨b, 1, none⟩))).run Tryd.prog w' = .ok (.agg ((listOf c 81).map (Value.int .i32)).toArray) w') := fun w' ⟨k, hk⟩ => by rw [hk]; exact load_row b n c _ (hz.drewN k)
  have L2 : Hid (∀ w', (∃ k, w' = w.drewN k) → (Instr.loadAt 138 (.pointer (some ⟨o, 1, none⟩))).run Tryd.prog w' = .ok (.agg ((listOf d 81).map (Value.int .i32)).toArray) w') := fun w' ⟨k, hk⟩ => by rw [hk]; exact load_row o n d _ (hy.drewN k)
  have E : Hid (∀ w', (∃ k, w' = w.drewN k) → (binOp .eql 138 (.agg ((listOf c 81).map (Value.int .i32)).toArray) (.agg ((listOf d 81).map (Value.int .i32)).toArray)).run Tryd.prog w' = .ok (.bool (eqUpto c d 81)) w') := fun w' _ => run_eql_row c d w'
  generalize ((listOf c 81).map (Value.int .i32)).toArray = x at *
  generalize ((listOf d 81).map (Value.int .i32)).toArray = y at *
  clear hz hy
  go_enter Tryd.func42, Tryd.ntmps42
  go_wp2_with fail
  refine wp_region_quiet_lit (by kernel_rfl) (by kernel_rfl) ?_
  iterate 8 quiet_step ((go_at_call 89; exact Calls.quiet_of (HA.out _)))
  refine BigFrame.wpQuiet_want rfl (fun K hK => quiet_load _ _ rfl _ rfl _ L1.out (hK _ ?_))
  clear hK K
  iterate 4 quiet_step (fail)
  refine BigFrame.wpQuiet_want rfl (fun K hK => quiet_load _ _ rfl _ rfl _ L2.out (hK _ ?_))
  clear hK K
  refine BigFrame.wpQuiet_want rfl (fun K hK => quiet_eql _ _ _ _ rfl _ _ rfl rfl (by kernel_rfl) _ E.out (hK _ ?_))
  clear hK K
  iterate 2 quiet_step (fail)
  refine wpQuiet_nil ?_
  intro _ hw'
  obtain ⟨nq, hw''⟩ := hw'
  subst hw''
  go_wp2_with fail
  go_ret
  exact ⟨rfl, _, rfl⟩
end Go.Proofs.YtfamdajjfpjlaaaDoor
