/-
  The statement 'ExprUnlike' holds: for every input the law returns true and each argument reads afterwards as before; the condition is the statement's own: the listed tables lie as the program's text lays them.
-/
import Derived.Test.YtmnhbokiibaopaaDoorCards
import Derived.Test.YtmnhbokiibaopaaDoorTie
import Derived.Test.YtmnhbokiibaopaaDoorUg
import Derived.WalkKit
import Derived.ProofKit
import Derived.OpenShut
import Derived.ShutString
import Derived.ChangeOld
import Derived.Below
import Derived.LaidMore
import Derived.Deep.DeepHandedRow
import Derived.Deep.DeepWitnessRowRef
import Derived.Lib.LaidTab
import Derived.Stop.LaidErr
namespace Go.Proofs.YtmnhbokiibaopaaDoor.exprUnlike
open Go.ChangeShapes Go.WideShapes Go.ChangeAt Go.RowKit
open Go.ChangeMaps (open_string shut_string)
set_option linter.unusedVariables false

theorem own : ownKnob Tryd.prog.godebug = none := by kernel_rfl
theorem laidOut : laidOutB Tryd.prog = true := by kernel_rfl
theorem gPow : Tryd.prog.globalNamed "internal/strconv.uint64pow10" = some 1 := by kernel_rfl
theorem tPow : (Tryd.prog.globals[1]?).map (·.type) = some 176 := by kernel_rfl
theorem cPow : Tryd.prog.cellsOf 176 = 20 := by kernel_rfl
theorem cU64 : Tryd.prog.cellsOf 143 = 1 := by kernel_rfl
/-- What the row's list gives: the library's table of powers of ten. -/
theorem table {W : World} (h : laidMetH Tryd.prog Rows.exprUnlikeRow.laid W) : Pow W := by
  have h : laidMet Tryd.prog Rows.exprUnlikeRow.laid W := h
  exact Lib.tabIs_of_head gPow tPow Tryd.underlying176 Tryd.underlying143 cU64 cPow (h.tail.tail)
/-- What the row's list gives: the operators. -/
theorem opers {W : World} (h : laidMetH Tryd.prog Rows.exprUnlikeRow.laid W) : OpsT W := by
  have h : laidMet Tryd.prog Rows.exprUnlikeRow.laid W := h
  exact ops_of (h.tail.tail.tail)

set_option maxRecDepth 100000 in
/-- What the walk gives, for every argument and every world that holds the tables. -/
theorem contract (H : Type) (enc : TypeId × Value → H) (W : World) (base : Nat) (args : Array Value) (ds gs : List (DataW H)) (before : List MemPlace)
    (hval : ∀ (j : Nat) t v, Tryd.f8.params[j]? = some t → args[j]? = some v → Value.okWide Tryd.prog W .any base t v)
    (hW : DataW.Whole enc Tryd.prog Tryd.f8.params.toList Rows.exprUnlikeSpec.vars false W args.toList ds gs before) (hL : laidMetH Tryd.prog Rows.exprUnlikeRow.laid W)
    (hsz : (DataW.weightsEach Tryd.prog (Tryd.f8.params.toList ++ (OpenSpec.ofChange Rows.exprUnlikeSpec).bare.plain.varTypes Tryd.prog) (ds ++ gs)).all (· ≤ reachBytes) = true) :
    Calls Tryd.prog 8 args W fun e W' => ∃ v, e = .returned v ∧ Rows.exprUnlikeSpec.post enc Tryd.prog Tryd.f8 false true false false W args v W' := by
  have hW' := hW
  obtain ⟨p, q, hA0, hV, rfl, hfz, hnd⟩ := hW
  have hA : DataW.TrodAll enc Tryd.prog W 0 (fun _ => true) true Tryd.f8.params.toList args.toList ds p := hA0
  rw [Tryd.params8] at hA hval hsz
  obtain ⟨v0, vs0, d0, ds0, p0, q0, hargs, rfl, rfl, h0, r0⟩ := trodAll_cons hA
  obtain ⟨v1, vs1, d1, ds1, p1, q1, rfl, rfl, rfl, h1, r1⟩ := trodAll_cons r0
  obtain ⟨v2, vs2, d2, ds2, p2, q2, rfl, rfl, rfl, h2, r2⟩ := trodAll_cons r1
  obtain ⟨rfl, rfl, rfl⟩ := trodAll_nil r2
  obtain rfl : args = #[v0, v1, v2] := by clear hsz hL; cases args; simp_all
  obtain ⟨rfl, rfl⟩ := trodVars_none hV
  have k0 := h0
  have lt0 : ∀ x ∈ p0, x.block < W.heap.size := by obtain ⟨m, hm⟩ := k0; exact DataW.trod_lt m _ _ _ hm
  obtain ⟨ad0, len0, cap0, rfl⟩ := okWide_slice Tryd.underlying22 (hval 0 22 v0 rfl rfl)
  obtain ⟨l0, rw0, wf0, by0⟩ : ∃ L : List Node, NodeS W (.slice ad0 len0 cap0) L ∧ (∀ n ∈ L, n.1 < 256 ∧ inR n.2) ∧ L.length * 16 ≤ 140737488355328 := by
    obtain ⟨fuel, hf⟩ := h0
    obtain ⟨L, h1, h2, h3, h4⟩ := open_nodes hf
    refine ⟨L, h1, h2, ?_⟩
    rcases h4 with ⟨_, h5⟩ | ⟨ds, ss, h5, h6⟩
    · rw [h3, h5]; decide
    · have hs := sized_slice hsz (j := 0) (t := 22) (e := 71) rfl (by show some d0 = _; rw [show d0 = DataW.slice ds ss from h5]) Tryd.underlying22
      have hb : Tryd.prog.bytesOf 71 = 16 := by kernel_rfl
      rw [hb, h6] at hs
      have hr : reachBytes ≤ 140737488355328 := by decide
      rw [h3]
      omega
  have k1 := h1
  have lt1 : ∀ x ∈ p1, x.block < W.heap.size := by obtain ⟨m, hm⟩ := k1; exact DataW.trod_lt m _ _ _ hm
  obtain ⟨ad1, len1, cap1, rfl⟩ := okWide_slice Tryd.underlying22 (hval 1 22 v1 rfl rfl)
  obtain ⟨l1, rw1, wf1, by1⟩ : ∃ L : List Node, NodeS W (.slice ad1 len1 cap1) L ∧ (∀ n ∈ L, n.1 < 256 ∧ inR n.2) ∧ L.length * 16 ≤ 140737488355328 := by
    obtain ⟨fuel, hf⟩ := h1
    obtain ⟨L, h1, h2, h3, h4⟩ := open_nodes hf
    refine ⟨L, h1, h2, ?_⟩
    rcases h4 with ⟨_, h5⟩ | ⟨ds, ss, h5, h6⟩
    · rw [h3, h5]; decide
    · have hs := sized_slice hsz (j := 1) (t := 22) (e := 71) rfl (by show some d1 = _; rw [show d1 = DataW.slice ds ss from h5]) Tryd.underlying22
      have hb : Tryd.prog.bytesOf 71 = 16 := by kernel_rfl
      rw [hb, h6] at hs
      have hr : reachBytes ≤ 140737488355328 := by decide
      rw [h3]
      omega
  have k2 := h2
  have lt2 : ∀ x ∈ p2, x.block < W.heap.size := by obtain ⟨m, hm⟩ := k2; exact DataW.trod_lt m _ _ _ hm
  obtain ⟨ad2, len2, cap2, rfl⟩ := okWide_slice Tryd.underlying63 (hval 2 63 v2 rfl rfl)
  obtain ⟨l2, rw2, wf2⟩ : ∃ L : List ByteArray, StrS W (.slice ad2 len2 cap2) L ∧ ∀ s ∈ L, s.size ≤ 140737488355328 := by
    obtain ⟨fuel, hf⟩ := h2
    obtain ⟨L, h1, h3, h4⟩ := open_strsV hf
    refine ⟨L, h1, fun s hs => ?_⟩
    rcases h4 with ⟨_, h5⟩ | ⟨ds, ss, h5, h6, h7⟩
    · rw [h5] at hs
      cases hs
    · have hs' := sized_strs hsz (j := 2) (t := 63) (e := 9) rfl (by show some d2 = _; rw [show d2 = DataW.slice ds ss from h5]) Tryd.underlying63 (h7 s hs)
      have hr : reachBytes ≤ 140737488355328 := by decide
      have e : s.data.toList.length = s.size := by simp
      omega
  have by2 : l2.length * 16 ≤ 140737488355328 := by
    obtain ⟨fuel, hf⟩ := k2
    obtain ⟨L, ⟨ad', cap', e', _⟩, h3, h4⟩ := open_strsV hf
    obtain ⟨ad2, cap2, e2, _⟩ := rw2
    injection e2 with _ e2 _
    rcases h4 with ⟨_, h5⟩ | ⟨ds, ss, h5, h6, h7⟩
    · rw [← e2, ← h3, h5]; decide
    · have hs := sized_slice hsz (j := 2) (t := 63) (e := 9) rfl (by show some d2 = _; rw [show d2 = DataW.slice ds ss from h5]) Tryd.underlying63
      have hb : Tryd.prog.bytesOf 9 = 16 := by kernel_rfl
      rw [hb, h6] at hs
      have hr : reachBytes ≤ 140737488355328 := by decide
      rw [← e2]
      omega
  clear hA0
  simp only [List.append_nil] at hW'
  refine (walk _ l0 _ l1 _ l2 W (opers hL) (table hL) rw0 wf0 by0 rw1 wf1 by1 rw2 wf2 by2).mono fun e W' ⟨he, hg⟩ => ?_
  subst he
  exact ⟨_, rfl, _, _, _, [], _, [], hW', trodAll_mk1 (shut_bool Tryd.underlying4 _), (trodAll_cons_mk (Below.trod laidOut (by kernel_rfl) (of_decide_eq_true (by kernel_rfl)) k0 hg lt0) (trodAll_cons_mk (Below.trod laidOut (by kernel_rfl) (of_decide_eq_true (by kernel_rfl)) k1 hg lt1) (trodAll_cons_mk (Below.trod laidOut (by kernel_rfl) (of_decide_eq_true (by kernel_rfl)) k2 hg lt2) trodAll_mk0))), rfl, hg.frame _, fun h => by cases h⟩

/-- The heap that the program's own initialisers leave meets the row's list. -/
theorem laid_met (os : Os) : laidMetH Tryd.prog Rows.exprUnlikeRow.laid ((World.doorLaid Tryd.prog 43 os).forCall (fun _ _ => 0) ⟨#[], #[.slice none 0 0, .slice none 0 0, .slice none 0 0], []⟩).memory :=
  laidMetH_of_parts3 (fuel := 8) (laidMet_of_run' 8 (by kernel_rfl) (by kernel_rfl)) (by kernel_rfl) (by kernel_rfl)
theorem reads (os : Os) {H : Type} (enc : TypeId × Value → H) : ∃ places, DataW.whole enc Tryd.prog ((World.doorLaid Tryd.prog 43 os).forCall (fun _ _ => 0) ⟨#[], #[.slice none 0 0, .slice none 0 0, .slice none 0 0], []⟩).memory Tryd.f8.params.toList Rows.exprUnlikeSpec.vars false #[.slice none 0 0, .slice none 0 0, .slice none 0 0].toList 8 = some ([.nil, .nil, .nil], [], places) :=
  ⟨[], by kernel_rfl⟩

set_option maxRecDepth 100000 in
theorem lifted (os : Os) (started : os.Started) (H : Type) (enc : TypeId × Value → H) (F : Stop.Interp) :
    ReturnsInHanded {} Tryd.checked os 8 .any ((OpenSpec.ofChange Rows.exprUnlikeSpec).preRow enc Tryd.prog Tryd.f8 Rows.exprUnlikeRow.domain false Rows.exprUnlikeRow.laid) (((OpenSpec.ofChange Rows.exprUnlikeSpec).at F).post enc Tryd.prog Tryd.f8 false true false false) := by
  obtain ⟨places, hx⟩ := reads os enc
  refine returnsInHanded_of_row (C := Tryd.checked) (s := OpenSpec.ofChange Rows.exprUnlikeSpec) own started (by kernel_rfl) Tryd.func8
    (witness_row_atRef (enc := enc) (C := Tryd.checked) false (World.doorLaid Tryd.prog 43 os) #[.slice none 0 0, .slice none 0 0, .slice none 0 0] rfl (by kernel_rfl) (by kernel_rfl) (by kernel_rfl)
      (OpenSpec.preRow_of_cond 8 hx (by kernel_rfl) (fun k hk => by cases hk) (by kernel_rfl) (laid_met os))) ?_
  intro W base args ds gs before hval hW _ hcond hsz hL _ _
  exact contract H enc W base args ds gs before hval hW hL hsz

theorem said : Rows.ExprUnlikeSaid :=
  OpenClaim.holds_of_cond 8 Tryd.f8 rfl rfl rfl rfl rfl rfl rfl ⟨rfl, rfl, rfl, rfl, rfl⟩ rfl rfl rfl rfl rfl (by kernel_rfl) Tryd.func8 (by kernel_rfl)
    (of_decide_eq_true (by kernel_rfl)) (by unfold Func.isWrapper; first | (rw [if_pos (by decide +kernel)]; kernel_rfl) | (rw [if_neg (by decide +kernel)]; exact ⟨rfl, rfl⟩))
    (fun os started H enc _ F => by rw [OpenClaim.pre_eq_preRow]; exact lifted os started H enc F)

/-- No parameter wants a stand-in: what the card asks. -/
theorem plain (f : FuncId) (fn : Func) (hf : Tryd.pinned.checked.prog.funcNamed "gnomon/gnomonlaw08.ExprUnlike" = some f) (hfn : Tryd.pinned.checked.prog.funcs[f]? = some fn) :
    false = Tryd.pinned.checked.prog.looks [] ∧ ∀ (j : Nat) t, fn.params[j]? = some t → Tryd.pinned.checked.prog.wantsStandIn t = false := by
  obtain rfl : f = 8 := Option.some.inj ((show Tryd.prog.funcNamed "gnomon/gnomonlaw08.ExprUnlike" = some 8 by kernel_rfl).symm.trans hf) |>.symm
  obtain rfl : fn = Tryd.f8 := (Option.some.inj (Tryd.func8.symm.trans hfn)).symm
  refine ⟨by kernel_rfl, fun j t ht => ?_⟩
  rw [Tryd.params8] at ht
  have hm : t ∈ [22, 22, 63] := by simpa using Array.mem_of_getElem? ht
  have hall : ([22, 22, 63].all fun u => !Tryd.prog.wantsStandIn u) = true := by kernel_rfl
  exact (show Tryd.prog.wantsStandIn t = false by simpa using List.all_eq_true.1 hall t hm)

/-- The statement. -/
theorem card : Rows.ExprUnlikeCardSaid :=
  Claim7.holds_tied_plain_at .later [] _ _ _ _ said (fun _ h => by cases h) (by kernel_rfl) (fun _ h => by cases h) exprUnlike_row_tie rfl ⟨rfl, rfl⟩ (by kernel_rfl) rfl plain (by kernel_rfl)
end Go.Proofs.YtmnhbokiibaopaaDoor.exprUnlike
namespace Go.Proofs.YtmnhbokiibaopaaDoor
theorem exprUnlike_holds : Rows.ExprUnlikeCardSaid := exprUnlike.card
end Go.Proofs.YtmnhbokiibaopaaDoor
