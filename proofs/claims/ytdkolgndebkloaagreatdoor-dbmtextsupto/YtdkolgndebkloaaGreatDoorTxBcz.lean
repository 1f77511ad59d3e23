/-
  The statement 'DbmTexts' holds: for every input the law returns true and each argument reads afterwards as before; the condition is the statement's own: the listed tables lie as the program's text lays them (and what is read is of bulk at most 1048576).
-/
import Derived.Test.YtdkolgndebkloaaGreatDoorCards
import Derived.Test.YtdkolgndebkloaaGreatDoorTie
import Derived.Test.YtdkolgndebkloaaGreatDoorTxBz
import Derived.WalkKit
import Derived.ProofKit
import Derived.OpenShut
import Derived.ShutString
import Derived.ChangeOld
import Derived.Below
import Derived.LaidMore
import Derived.Deep.DeepHandedRow
import Derived.Deep.DeepWitnessRowRef
import Derived.Lib.LaidTab
import Derived.Stop.LaidErr
namespace Go.Proofs.YtdkolgndebkloaaGreatDoor.dbmTexts
open Go.ChangeShapes Go.WideShapes Go.ChangeAt Go.RowKit
open Go.ChangeMaps (open_string shut_string)
set_option linter.unusedVariables false

theorem own : ownKnob Tryz.prog.godebug = none := by kernel_rfl
theorem laidOut : laidOutB Tryz.prog = true := by kernel_rfl
theorem gPow : Tryz.prog.globalNamed "internal/strconv.uint64pow10" = some 1 := by kernel_rfl
theorem tPow : (Tryz.prog.globals[1]?).map (·.type) = some 143 := by kernel_rfl
theorem cPow : Tryz.prog.cellsOf 143 = 20 := by kernel_rfl
theorem cU64 : Tryz.prog.cellsOf 130 = 1 := by kernel_rfl
/-- What the row's list gives: the library's table of powers of ten. -/
theorem table {W : World} (h : laidMetH Tryz.prog Rows.dbmTextsRow.laid W) : Pow W := by
  have h : laidMet Tryz.prog Rows.dbmTextsRow.laid W := h
  exact Lib.tabIs_of_head gPow tPow Tryz.underlying143 Tryz.underlying130 cU64 cPow (h.tail.tail)
theorem star : "*" ++ "errors.errorString" = "*errors.errorString" := by decide
theorem rowErr (u : TypeId) (h : Tryz.prog.typeName? 3 u = some "*errors.errorString") : u = 155 :=
  typeName_ptr_named (nm := "errors.errorString") (by rw [star]; kernel_rfl) (by kernel_rfl) (by decide) u (by rw [star]; exact h)
theorem tSyn : (Tryz.prog.globals[2]?).map (·.type) = some 66 := by kernel_rfl
theorem tRan : (Tryz.prog.globals[3]?).map (·.type) = some 66 := by kernel_rfl
theorem cErr : Tryz.prog.cellsOf 157 = 1 := by kernel_rfl
theorem cStr : Tryz.prog.cellsOf 9 = 1 := by kernel_rfl
theorem errs {W : World} (h : laidMetH Tryz.prog Rows.dbmTextsRow.laid W) : Errs W := by
  rw [MakeChecks.laidMetH_plain _ _ _ (by kernel_rfl)] at h
  obtain ⟨a0, s0, hv0, -, -, -⟩ := laid_sentinel (h.tail.tail.tail.tail) gSyn tSyn Tryz.underlying66 rowErr Tryz.underlying155 Tryz.underlying157 rfl rfl Tryz.underlying9 cErr cStr
  obtain ⟨a1, s1, hv1, -, -, -⟩ := laid_sentinel (h.tail.tail.tail) gRan tRan Tryz.underlying66 rowErr Tryz.underlying155 Tryz.underlying157 rfl rfl Tryz.underlying9 cErr cStr
  exact ⟨⟨_, _, hv0⟩, _, _, hv1⟩

set_option maxRecDepth 100000 in
/-- What the walk gives, for every argument and every world that holds the tables. -/
theorem contract (H : Type) (enc : TypeId × Value → H) (W : World) (base : Nat) (args : Array Value) (ds gs : List (DataW H)) (before : List MemPlace)
    (hval : ∀ (j : Nat) t v, Tryz.f3.params[j]? = some t → args[j]? = some v → Value.okWide Tryz.prog W .any base t v)
    (hW : DataW.Whole enc Tryz.prog Tryz.f3.params.toList Rows.dbmTextsSpec.vars false W args.toList ds gs before) (hL : laidMetH Tryz.prog Rows.dbmTextsRow.laid W)
    (hsz : (DataW.weightsEach Tryz.prog (Tryz.f3.params.toList ++ (Rows.OpenSpec.upto Rows.dbmTextsSpec).bare.plain.varTypes Tryz.prog) (ds ++ gs)).all (· ≤ reachBytes) = true) (hbk : Rows.uptoSmall H (ds ++ gs) = true) :
    Calls Tryz.prog 3 args W fun e W' => ∃ v, e = .returned v ∧ Rows.dbmTextsSpec.post enc Tryz.prog Tryz.f3 false true false false W args v W' := by
  have hW' := hW
  obtain ⟨p, q, hA0, hV, rfl, hfz, hnd⟩ := hW
  have hA : DataW.TrodAll enc Tryz.prog W 0 (fun _ => true) true Tryz.f3.params.toList args.toList ds p := hA0
  rw [Tryz.params3] at hA hval hsz
  obtain ⟨v0, vs0, d0, ds0, p0, q0, hargs, rfl, rfl, h0, r0⟩ := trodAll_cons hA
  obtain ⟨v1, vs1, d1, ds1, p1, q1, rfl, rfl, rfl, h1, r1⟩ := trodAll_cons r0
  obtain ⟨v2, vs2, d2, ds2, p2, q2, rfl, rfl, rfl, h2, r2⟩ := trodAll_cons r1
  obtain ⟨rfl, rfl, rfl⟩ := trodAll_nil r2
  obtain rfl : args = #[v0, v1, v2] := by clear hsz hL; cases args; simp_all
  obtain ⟨rfl, rfl⟩ := trodVars_none hV
  obtain ⟨a0, rfl, rfl, rfl, w0⟩ := open_int Tryz.underlying3 (hval 0 3 v0 rfl rfl) h0
  have k1 := h1
  have lt1 : ∀ x ∈ p1, x.block < W.heap.size := by obtain ⟨m, hm⟩ := k1; exact DataW.trod_lt m _ _ _ hm
  obtain ⟨ad1, len1, cap1, rfl⟩ := okWide_slice Tryz.underlying22 (hval 1 22 v1 rfl rfl)
  obtain ⟨l1, rw1, wf1, by1, nl1⟩ : ∃ l : List Int, SliceAt W (.slice ad1 len1 cap1) l ∧ (∀ z ∈ l, (Lit.int .i32 z).wf = true) ∧ l.length * 4 ≤ 140737488355328 ∧ ∀ {c}, Value.slice ad1 len1 cap1 = .slice none 0 c → c = 0 := by
    obtain ⟨fuel, hf⟩ := h1
    rcases open_ints Tryz.underlying22 Tryz.underlying47 (by kernel_rfl) hf with ⟨hcs, _⟩ | ⟨x, l, c, zs, hcs, _, hl, hm, hz, hx, hcell, hwz⟩
    · simp [Value.cells] at hcs
      obtain ⟨rfl, rfl, rfl⟩ := hcs
      exact ⟨[], .inl ⟨_, _, rfl, rfl⟩, by simp, by simp, fun h => by cases h; rfl⟩
    · simp [Value.cells] at hcs
      obtain ⟨rfl, rfl, rfl⟩ := hcs
      simp only [Prod.mk.injEq] at hx
      have hz : zs.length = cap1 := by simpa using hz
      have hs := sized_slice hsz (j := 1) (t := 22) (e := 47) rfl (by rw [hx.1]; rfl) Tryz.underlying22
      have hb : Tryz.prog.bytesOf 47 = 4 := by kernel_rfl
      rw [hb] at hs
      simp only [lits, List.length_map, List.length_take, List.length_drop] at hs
      have hr : reachBytes ≤ 140737488355328 := by decide
      refine ⟨zs.take len1, ?_, fun z hz' => hwz z (List.mem_of_mem_take hz'), ?_, fun h => by cases h⟩
      · by_cases hp : 0 < len1
        · obtain ⟨bk, off, rfl, hc⟩ := ints_at hcell (by omega)
          refine .inr ⟨bk, off, cap1, ?_, fun j hj => ?_⟩
          · have : (zs.take len1).length = len1 := by simp; omega
            rw [this]
          · have hj' : j < len1 := by simp at hj; omega
            rw [hc j (by omega)]
            simp [List.getD, hj']
        · obtain rfl : len1 = 0 := by omega
          exact .inl ⟨_, _, rfl, by simp⟩
      · simp only [List.length_take]
        omega
  obtain ⟨a2, rfl, rfl, rfl, w2⟩ := open_string Tryz.underlying9 (hval 2 9 v2 rfl rfl) h2
  have lim2 : a2.size ≤ 140737488355328 := by
    have h := sized_string hsz (j := 2) (t := 9) rfl rfl
    have hr : reachBytes ≤ 140737488355328 := by decide
    have e : a2.data.toList.length = a2.size := by simp
    omega
  have hbk := of_decide_eq_true hbk
  simp only [Rows.uptoBulkAll, Rows.uptoBulk, List.append_nil] at hbk
  have up2 : a2.size ≤ 1048576 := by
    have e : a2.data.toList.length = a2.size := by simp
    omega
  clear hA0
  simp only [List.append_nil] at hW'
  refine (walk a0 w0 _ l1 a2 w2 W (table hL) (errs hL) rw1 wf1 by1 nl1 lim2 up2).mono fun e W' ⟨he, hg⟩ => ?_
  subst he
  exact ⟨_, rfl, _, _, _, [], _, [], hW', trodAll_mk1 (shut_bool Tryz.underlying4 _), (trodAll_cons_mk (shut_int Tryz.underlying3 w0) (trodAll_cons_mk (Below.trod laidOut (by kernel_rfl) (of_decide_eq_true (by kernel_rfl)) k1 hg lt1) (trodAll_cons_mk (shut_string Tryz.underlying9 w2) trodAll_mk0))), rfl, hg.frame _, fun h => by cases h⟩

/-- The heap that the program's own initialisers leave meets the row's list. -/
theorem laid_met (os : Os) : laidMetH Tryz.prog Rows.dbmTextsRow.laid ((World.doorLaid Tryz.prog 62 os).forCall (fun _ _ => 0) ⟨#[], #[.int .i64 0, .slice none 0 0, .string ⟨#[]⟩], []⟩).memory :=
  laidMetH_of_parts3 (fuel := 8) (laidMet_of_run' 8 (by kernel_rfl) (by kernel_rfl)) (by kernel_rfl) (by kernel_rfl)
theorem reads (os : Os) {H : Type} (enc : TypeId × Value → H) : ∃ places, DataW.whole enc Tryz.prog ((World.doorLaid Tryz.prog 62 os).forCall (fun _ _ => 0) ⟨#[], #[.int .i64 0, .slice none 0 0, .string ⟨#[]⟩], []⟩).memory Tryz.f3.params.toList Rows.dbmTextsSpec.vars false #[.int .i64 0, .slice none 0 0, .string ⟨#[]⟩].toList 8 = some ([.lit (.int .i64 0), .nil, .lit (.string [])], [], places) :=
  ⟨[], by kernel_rfl⟩

set_option maxRecDepth 100000 in
theorem lifted (os : Os) (started : os.Started) (H : Type) (enc : TypeId × Value → H) (F : Stop.Interp) :
    ReturnsInHanded {} Tryz.checked os 3 .any ((Rows.OpenSpec.upto Rows.dbmTextsSpec).preRow enc Tryz.prog Tryz.f3 Rows.dbmTextsUptoRow.domain false Rows.dbmTextsUptoRow.laid) (((Rows.OpenSpec.upto Rows.dbmTextsSpec).at F).post enc Tryz.prog Tryz.f3 false true false false) := by
  obtain ⟨places, hx⟩ := reads os enc
  refine returnsInHanded_of_row (C := Tryz.checked) (s := Rows.OpenSpec.upto Rows.dbmTextsSpec) own started (by kernel_rfl) Tryz.func3
    (witness_row_atRef (enc := enc) (C := Tryz.checked) false (World.doorLaid Tryz.prog 62 os) #[.int .i64 0, .slice none 0 0, .string ⟨#[]⟩] rfl (by kernel_rfl) (by kernel_rfl) (by kernel_rfl)
      (OpenSpec.preRow_of_cond 8 hx (by kernel_rfl) (fun k hk => by cases hk; kernel_rfl) (by kernel_rfl) (laid_met os))) ?_
  intro W base args ds gs before hval hW _ hcond hsz hL _ _
  exact contract H enc W base args ds gs before hval hW hL hsz (hcond _ rfl)

theorem said : Rows.DbmTextsUptoSaid :=
  OpenClaim.holds_of_cond 3 Tryz.f3 rfl rfl rfl rfl rfl rfl rfl ⟨rfl, rfl, rfl, rfl, rfl⟩ rfl rfl rfl rfl rfl (by kernel_rfl) Tryz.func3 (by kernel_rfl)
    (of_decide_eq_true (by kernel_rfl)) (by unfold Func.isWrapper; first | (rw [if_pos (by decide +kernel)]; kernel_rfl) | (rw [if_neg (by decide +kernel)]; exact ⟨rfl, rfl⟩))
    (fun os started H enc _ F => by rw [OpenClaim.pre_eq_preRow]; exact lifted os started H enc F)

/-- No parameter wants a stand-in: what the card asks. -/
theorem plain (f : FuncId) (fn : Func) (hf : Tryz.pinned.checked.prog.funcNamed "gnomon/gnomonlaw03.DbmTexts" = some f) (hfn : Tryz.pinned.checked.prog.funcs[f]? = some fn) :
    true = Tryz.pinned.checked.prog.looks [] ∧ ∀ (j : Nat) t, fn.params[j]? = some t → Tryz.pinned.checked.prog.wantsStandIn t = false := by
  obtain rfl : f = 3 := Option.some.inj ((show Tryz.prog.funcNamed "gnomon/gnomonlaw03.DbmTexts" = some 3 by kernel_rfl).symm.trans hf) |>.symm
  obtain rfl : fn = Tryz.f3 := (Option.some.inj (Tryz.func3.symm.trans hfn)).symm
  refine ⟨by kernel_rfl, fun j t ht => ?_⟩
  rw [Tryz.params3] at ht
  have hm : t ∈ [3, 22, 9] := by simpa using Array.mem_of_getElem? ht
  have hall : ([3, 22, 9].all fun u => !Tryz.prog.wantsStandIn u) = true := by kernel_rfl
  exact (show Tryz.prog.wantsStandIn t = false by simpa using List.all_eq_true.1 hall t hm)

/-- The statement. -/
theorem card : Rows.DbmTextsUptoCardSaid :=
  Claim7.holds_tied_plain_at .later [] _ _ _ _ said (fun _ h => by cases h) (by kernel_rfl) (fun _ h => by cases h) dbmTextsUpto_row_tie rfl ⟨rfl, rfl⟩ (by kernel_rfl) rfl plain (by kernel_rfl)
end Go.Proofs.YtdkolgndebkloaaGreatDoor.dbmTexts
namespace Go.Proofs.YtdkolgndebkloaaGreatDoor
theorem dbmTextsUpto_holds : Rows.DbmTextsUptoCardSaid := dbmTexts.card
end Go.Proofs.YtdkolgndebkloaaGreatDoor
