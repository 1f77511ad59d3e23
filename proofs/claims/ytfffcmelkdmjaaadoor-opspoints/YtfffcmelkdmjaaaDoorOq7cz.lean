/-
  The statement 'OpsPoints' holds: for every input the law returns true and each argument reads afterwards as before; the condition is the statement's own: the listed tables lie as the program's text lays them.
-/
import Derived.Test.YtfffcmelkdmjaaaDoorCards
import Derived.Test.YtfffcmelkdmjaaaDoorTie
import Derived.Test.YtfffcmelkdmjaaaDoorOq7z
import Derived.Test.YtfffcmelkdmjaaaDoorOq9z
import Derived.WalkKit
import Derived.ProofKit
import Derived.OpenShut
import Derived.ShutString
import Derived.ChangeOld
import Derived.Below
import Derived.LaidMore
import Derived.Deep.DeepHandedRow
import Derived.Deep.DeepWitnessRowRef
import Derived.Lib.LaidTab
import Derived.Stop.LaidErr
namespace Go.Proofs.YtfffcmelkdmjaaaDoor.opsPoints
open Go.ChangeShapes Go.WideShapes Go.ChangeAt Go.RowKit
open Go.ChangeMaps (open_string shut_string)
set_option linter.unusedVariables false

theorem own : ownKnob Tryd.prog.godebug = none := by kernel_rfl
theorem laidOut : laidOutB Tryd.prog = true := by kernel_rfl
theorem gPow : Tryd.prog.globalNamed "internal/strconv.uint64pow10" = some 0 := by kernel_rfl
theorem tPow : (Tryd.prog.globals[0]?).map (·.type) = some 233 := by kernel_rfl
theorem cPow : Tryd.prog.cellsOf 233 = 20 := by kernel_rfl
theorem cU64 : Tryd.prog.cellsOf 213 = 1 := by kernel_rfl
/-- What the row's list gives: the library's table of powers of ten. -/
theorem table {W : World} (h : laidMetH Tryd.prog Rows.opsPointsRow.laid W) : Pow W := by
  have h : laidMet Tryd.prog Rows.opsPointsRow.laid W := h
  exact Lib.tabIs_of_head gPow tPow Tryd.underlying233 Tryd.underlying213 cU64 cPow (h.tail.tail)

set_option maxRecDepth 100000 in
/-- What the walk gives, for every argument and every world that holds the tables. -/
theorem contract (H : Type) (enc : TypeId × Value → H) (W : World) (base : Nat) (args : Array Value) (ds gs : List (DataW H)) (before : List MemPlace)
    (hval : ∀ (j : Nat) t v, Tryd.f7.params[j]? = some t → args[j]? = some v → Value.okWide Tryd.prog W .any base t v)
    (hW : DataW.Whole enc Tryd.prog Tryd.f7.params.toList Rows.opsPointsSpec.vars false W args.toList ds gs before) (hL : laidMetH Tryd.prog Rows.opsPointsRow.laid W)
    (hsz : (DataW.weightsEach Tryd.prog (Tryd.f7.params.toList ++ (OpenSpec.ofChange Rows.opsPointsSpec).bare.plain.varTypes Tryd.prog) (ds ++ gs)).all (· ≤ reachBytes) = true) :
    Calls Tryd.prog 7 args W fun e W' => ∃ v, e = .returned v ∧ Rows.opsPointsSpec.post enc Tryd.prog Tryd.f7 false true false false W args v W' := by
  have hW' := hW
  obtain ⟨p, q, hA0, hV, rfl, hfz, hnd⟩ := hW
  have hA : DataW.TrodAll enc Tryd.prog W 0 (fun _ => true) true Tryd.f7.params.toList args.toList ds p := hA0
  rw [Tryd.params7] at hA hval hsz
  obtain ⟨v0, vs0, d0, ds0, p0, q0, hargs, rfl, rfl, h0, r0⟩ := trodAll_cons hA
  obtain ⟨v1, vs1, d1, ds1, p1, q1, rfl, rfl, rfl, h1, r1⟩ := trodAll_cons r0
  obtain ⟨v2, vs2, d2, ds2, p2, q2, rfl, rfl, rfl, h2, r2⟩ := trodAll_cons r1
  obtain ⟨rfl, rfl, rfl⟩ := trodAll_nil r2
  obtain rfl : args = #[v0, v1, v2] := by clear hsz hL; cases args; simp_all
  obtain ⟨rfl, rfl⟩ := trodVars_none hV
  obtain ⟨a0, rfl, rfl, rfl, w0⟩ := open_int Tryd.underlying3 (hval 0 3 v0 rfl rfl) h0
  have k1 := h1
  have lt1 : ∀ x ∈ p1, x.block < W.heap.size := by obtain ⟨m, hm⟩ := k1; exact DataW.trod_lt m _ _ _ hm
  obtain ⟨ad1, len1, cap1, rfl⟩ := okWide_slice Tryd.underlying22 (hval 1 22 v1 rfl rfl)
  obtain ⟨l1, rw1, wf1, by1, nl1⟩ : ∃ l : List Int, SliceAt W (.slice ad1 len1 cap1) l ∧ (∀ z ∈ l, (Lit.int .i32 z).wf = true) ∧ l.length * 4 ≤ 140737488355328 ∧ ∀ {c}, Value.slice ad1 len1 cap1 = .slice none 0 c → c = 0 := by
    obtain ⟨fuel, hf⟩ := h1
    rcases open_ints Tryd.underlying22 Tryd.underlying79 (by kernel_rfl) hf with ⟨hcs, _⟩ | ⟨x, l, c, zs, hcs, _, hl, hm, hz, hx, hcell, hwz⟩
    · simp [Value.cells] at hcs
      obtain ⟨rfl, rfl, rfl⟩ := hcs
      exact ⟨[], .inl ⟨_, _, rfl, rfl⟩, by simp, by simp, fun h => by cases h; rfl⟩
    · simp [Value.cells] at hcs
      obtain ⟨rfl, rfl, rfl⟩ := hcs
      simp only [Prod.mk.injEq] at hx
      have hz : zs.length = cap1 := by simpa using hz
      have hs := sized_slice hsz (j := 1) (t := 22) (e := 79) rfl (by rw [hx.1]; rfl) Tryd.underlying22
      have hb : Tryd.prog.bytesOf 79 = 4 := by kernel_rfl
      rw [hb] at hs
      simp only [lits, List.length_map, List.length_take, List.length_drop] at hs
      have hr : reachBytes ≤ 140737488355328 := by decide
      refine ⟨zs.take len1, ?_, fun z hz' => hwz z (List.mem_of_mem_take hz'), ?_, fun h => by cases h⟩
      · by_cases hp : 0 < len1
        · obtain ⟨bk, off, rfl, hc⟩ := ints_at hcell (by omega)
          refine .inr ⟨bk, off, cap1, ?_, fun j hj => ?_⟩
          · have : (zs.take len1).length = len1 := by simp; omega
            rw [this]
          · have hj' : j < len1 := by simp at hj; omega
            rw [hc j (by omega)]
            simp [List.getD, hj']
        · obtain rfl : len1 = 0 := by omega
          exact .inl ⟨_, _, rfl, by simp⟩
      · simp only [List.length_take]
        omega
  have k2 := h2
  have lt2 : ∀ x ∈ p2, x.block < W.heap.size := by obtain ⟨m, hm⟩ := k2; exact DataW.trod_lt m _ _ _ hm
  obtain ⟨c2_0, c2_1, c2_2, c2_3, c2_4, y2_0, y2_1, y2_2, y2_3, y2_4, nn2, rfl, g2_0, g2_1, g2_2, g2_3, g2_4, gw2⟩ := open_agg5W Tryd.underlying63 (by kernel_rfl) (by kernel_rfl) (hval 2 63 v2 rfl rfl) h2 (wts_param hsz (j := 2) (t := 63) rfl rfl)
  obtain ⟨l2_0, rw2_0, wf2_0, by2_0⟩ := open_hs Tryd.underlying60 Tryd.underlying61 (by kernel_rfl) g2_0
  obtain ⟨x2_1, e2_1, _, w2_1⟩ := DataW.trod_int Tryd.underlying3 g2_1
  simp only [List.cons.injEq, and_true] at e2_1
  subst e2_1
  obtain ⟨x2_2, e2_2, _, w2_2⟩ := DataW.trod_int Tryd.underlying3 g2_2
  simp only [List.cons.injEq, and_true] at e2_2
  subst e2_2
  obtain ⟨x2_3, e2_3, _, w2_3⟩ := DataW.trod_int Tryd.underlying61 g2_3
  simp only [List.cons.injEq, and_true] at e2_3
  subst e2_3
  obtain ⟨l2_4, rw2_4, wf2_4, by2_4⟩ := open_guaV g2_4 gw2
  clear hA0
  simp only [List.append_nil] at hW'
  refine (walk a0 w0 _ l1 _ l2_0 x2_1 x2_2 x2_3 _ l2_4 W (table hL) rw1 wf1 by1 nl1 rw2_0 wf2_0 by2_0 w2_1 w2_2 w2_3 rw2_4 wf2_4 by2_4).mono fun e W' ⟨he, hg⟩ => ?_
  subst he
  exact ⟨_, rfl, _, _, _, [], _, [], hW', trodAll_mk1 (shut_bool Tryd.underlying4 _), (trodAll_cons_mk (shut_int Tryd.underlying3 w0) (trodAll_cons_mk (Below.trod laidOut (by kernel_rfl) (of_decide_eq_true (by kernel_rfl)) k1 hg lt1) (trodAll_cons_mk (Below.trod laidOut (by kernel_rfl) (of_decide_eq_true (by kernel_rfl)) k2 hg lt2) trodAll_mk0))), rfl, hg.frame _, fun h => by cases h⟩

/-- The heap that the program's own initialisers leave meets the row's list. -/
theorem laid_met (os : Os) : laidMetH Tryd.prog Rows.opsPointsRow.laid ((World.doorLaid Tryd.prog 24 os).forCall (fun _ _ => 0) ⟨#[], #[.int .i64 0, .slice none 0 0, .agg #[.slice none 0 0, .int .i64 0, .int .i64 0, .int .u16 0, .slice none 0 0]], []⟩).memory :=
  laidMetH_of_parts3 (fuel := 8) (laidMet_of_run' 8 (by kernel_rfl) (by kernel_rfl)) (by kernel_rfl) (by kernel_rfl)
theorem reads (os : Os) {H : Type} (enc : TypeId × Value → H) : ∃ places, DataW.whole enc Tryd.prog ((World.doorLaid Tryd.prog 24 os).forCall (fun _ _ => 0) ⟨#[], #[.int .i64 0, .slice none 0 0, .agg #[.slice none 0 0, .int .i64 0, .int .i64 0, .int .u16 0, .slice none 0 0]], []⟩).memory Tryd.f7.params.toList Rows.opsPointsSpec.vars false #[.int .i64 0, .slice none 0 0, .agg #[.slice none 0 0, .int .i64 0, .int .i64 0, .int .u16 0, .slice none 0 0]].toList 8 = some ([.lit (.int .i64 0), .nil, .agg [.nil, .lit (.int .i64 0), .lit (.int .i64 0), .lit (.int .u16 0), .nil]], [], places) :=
  ⟨[], by kernel_rfl⟩

set_option maxRecDepth 100000 in
theorem lifted (os : Os) (started : os.Started) (H : Type) (enc : TypeId × Value → H) (F : Stop.Interp) :
    ReturnsInHanded {} Tryd.checked os 7 .any ((OpenSpec.ofChange Rows.opsPointsSpec).preRow enc Tryd.prog Tryd.f7 Rows.opsPointsRow.domain false Rows.opsPointsRow.laid) (((OpenSpec.ofChange Rows.opsPointsSpec).at F).post enc Tryd.prog Tryd.f7 false true false false) := by
  obtain ⟨places, hx⟩ := reads os enc
  refine returnsInHanded_of_row (C := Tryd.checked) (s := OpenSpec.ofChange Rows.opsPointsSpec) own started (by kernel_rfl) Tryd.func7
    (witness_row_atRef (enc := enc) (C := Tryd.checked) false (World.doorLaid Tryd.prog 24 os) #[.int .i64 0, .slice none 0 0, .agg #[.slice none 0 0, .int .i64 0, .int .i64 0, .int .u16 0, .slice none 0 0]] rfl (by kernel_rfl) (by kernel_rfl) (by kernel_rfl)
      (OpenSpec.preRow_of_cond 8 hx (by kernel_rfl) (fun k hk => by cases hk) (by kernel_rfl) (laid_met os))) ?_
  intro W base args ds gs before hval hW _ hcond hsz hL _ _
  exact contract H enc W base args ds gs before hval hW hL hsz

theorem said : Rows.OpsPointsSaid :=
  OpenClaim.holds_of_cond 7 Tryd.f7 rfl rfl rfl rfl rfl rfl rfl ⟨rfl, rfl, rfl, rfl, rfl⟩ rfl rfl rfl rfl rfl (by kernel_rfl) Tryd.func7 (by kernel_rfl)
    (of_decide_eq_true (by kernel_rfl)) (by unfold Func.isWrapper; first | (rw [if_pos (by decide +kernel)]; kernel_rfl) | (rw [if_neg (by decide +kernel)]; exact ⟨rfl, rfl⟩))
    (fun os started H enc _ F => by rw [OpenClaim.pre_eq_preRow]; exact lifted os started H enc F)

/-- No parameter wants a stand-in: what the card asks. -/
theorem plain (f : FuncId) (fn : Func) (hf : Tryd.pinned.checked.prog.funcNamed "gnomon/gnomonlaw04.OpsPoints" = some f) (hfn : Tryd.pinned.checked.prog.funcs[f]? = some fn) :
    false = Tryd.pinned.checked.prog.looks [] ∧ ∀ (j : Nat) t, fn.params[j]? = some t → Tryd.pinned.checked.prog.wantsStandIn t = false := by
  obtain rfl : f = 7 := Option.some.inj ((show Tryd.prog.funcNamed "gnomon/gnomonlaw04.OpsPoints" = some 7 by kernel_rfl).symm.trans hf) |>.symm
  obtain rfl : fn = Tryd.f7 := (Option.some.inj (Tryd.func7.symm.trans hfn)).symm
  refine ⟨by kernel_rfl, fun j t ht => ?_⟩
  rw [Tryd.params7] at ht
  have hm : t ∈ [3, 22, 63] := by simpa using Array.mem_of_getElem? ht
  have hall : ([3, 22, 63].all fun u => !Tryd.prog.wantsStandIn u) = true := by kernel_rfl
  exact (show Tryd.prog.wantsStandIn t = false by simpa using List.all_eq_true.1 hall t hm)

/-- The statement. -/
theorem card : Rows.OpsPointsCardSaid :=
  Claim7.holds_tied_plain_at .later [] _ _ _ _ said (fun _ h => by cases h) (by kernel_rfl) (fun _ h => by cases h) opsPoints_row_tie rfl ⟨rfl, rfl⟩ (by kernel_rfl) rfl plain (by kernel_rfl)
end Go.Proofs.YtfffcmelkdmjaaaDoor.opsPoints
namespace Go.Proofs.YtfffcmelkdmjaaaDoor
theorem opsPoints_holds : Rows.OpsPointsCardSaid := opsPoints.card
end Go.Proofs.YtfffcmelkdmjaaaDoor
