/-
  The statement 'FedParts' holds: for every input the law returns true and each argument reads afterwards as before; there is no other condition.
-/
import Derived.Test.YtnfkmpickmonoaaRows
import Derived.Test.YtnfkmpickmonoaaQ54
import Derived.WalkKit
import Derived.ProofKit
import Derived.OpenShut
import Derived.ChangeOld
import Derived.Below
import Derived.Carry
import Derived.SizedLaws
namespace Go.Proofs.Ytnfkmpickmonoaa.fedParts
open Go.ChangeShapes Go.WideShapes Go.ChangeAt Go.RowKit
set_option linter.unusedVariables false

theorem own : ownKnob Try.prog.godebug = none := by kernel_rfl
theorem laidOut : laidOutB Try.prog = true := by kernel_rfl

set_option maxRecDepth 100000 in
theorem lifted (os : Os) (started : os.Started) (H : Type) (enc : TypeId × Value → H) :
    ReturnsInHanded {} Try.checked os 4 .any (Rows.fedPartsSpec.pre6 enc Try.prog Try.f4 Rows.fedPartsRow.domain false) (Rows.fedPartsSpec.post enc Try.prog Try.f4 false true false false) := by
  refine returnsInHanded_of_change_sized (C := Try.checked) own started (by kernel_rfl) Try.func4
    (ChangeSpec.witness6 (enc := enc) (C := Try.checked) false ⟨#[], #[.int .i64 0, .slice none 0 0, .slice none 0 0], []⟩ 8 (by kernel_rfl) (by kernel_rfl) (by kernel_rfl) (by kernel_rfl)) ?_
  intro W base args ds gs before hval0 hW hcnd hsz _
  have hval : ∀ (j : Nat) t v, Try.f4.params[j]? = some t → args[j]? = some v → Value.okWide Try.prog W .any base t v := hval0
  have hW' := hW
  obtain ⟨p, q, hA0, hV, rfl, hfz, hnd⟩ := hW
  have hA : DataW.TrodAll enc Try.prog W 0 (fun _ => true) true Try.f4.params.toList args.toList ds p := hA0
  rw [Try.params4] at hA hval hsz
  obtain ⟨v0, vs0, d0, ds0, p0, q0, hargs, rfl, rfl, h0, r0⟩ := trodAll_cons hA
  obtain ⟨v1, vs1, d1, ds1, p1, q1, rfl, rfl, rfl, h1, r1⟩ := trodAll_cons r0
  obtain ⟨v2, vs2, d2, ds2, p2, q2, rfl, rfl, rfl, h2, r2⟩ := trodAll_cons r1
  obtain ⟨rfl, rfl, rfl⟩ := trodAll_nil r2
  obtain rfl : args = #[v0, v1, v2] := by clear hsz; cases args; simp_all
  obtain ⟨rfl, rfl⟩ := trodVars_none hV
  obtain ⟨a0, rfl, rfl, rfl, w0⟩ := open_int Try.underlying3 (hval 0 3 v0 rfl rfl) h0
  have k1 := h1
  have lt1 : ∀ x ∈ p1, x.block < W.heap.size := by obtain ⟨m, hm⟩ := k1; exact DataW.trod_lt m _ _ _ hm
  obtain ⟨ad1, len1, cap1, rfl⟩ := okWide_slice Try.underlying25 (hval 1 25 v1 rfl rfl)
  obtain ⟨l1, rw1, wf1, by1, nl1⟩ : ∃ l : List Int, SliceAt W (.slice ad1 len1 cap1) l ∧ (∀ z ∈ l, (Lit.int .i32 z).wf = true) ∧ l.length * 4 ≤ 140737488355328 ∧ ∀ {c}, Value.slice ad1 len1 cap1 = .slice none 0 c → c = 0 := by
    obtain ⟨fuel, hf⟩ := h1
    rcases open_ints Try.underlying25 Try.underlying67 (by kernel_rfl) hf with ⟨hcs, _⟩ | ⟨x, l, c, zs, hcs, _, hl, hm, hz, hx, hcell, hwz⟩
    · simp [Value.cells] at hcs
      obtain ⟨rfl, rfl, rfl⟩ := hcs
      exact ⟨[], .inl ⟨_, _, rfl, rfl⟩, by simp, by simp, fun h => by cases h; rfl⟩
    · simp [Value.cells] at hcs
      obtain ⟨rfl, rfl, rfl⟩ := hcs
      simp only [Prod.mk.injEq] at hx
      have hz : zs.length = cap1 := by simpa using hz
      have hs := sized_slice hsz (j := 1) (t := 25) (e := 67) rfl (by rw [hx.1]; rfl) Try.underlying25
      have hb : Try.checked.prog.bytesOf 67 = 4 := by kernel_rfl
      rw [hb] at hs
      simp only [lits, List.length_map, List.length_take, List.length_drop] at hs
      have hr : reachBytes ≤ 140737488355328 := by decide
      refine ⟨zs.take len1, ?_, fun z hz' => hwz z (List.mem_of_mem_take hz'), ?_, fun h => by cases h⟩
      · by_cases hp : 0 < len1
        · obtain ⟨bk, off, rfl, hc⟩ := ints_at hcell (by omega)
          refine .inr ⟨bk, off, cap1, ?_, fun j hj => ?_⟩
          · have : (zs.take len1).length = len1 := by simp; omega
            rw [this]
          · have hj' : j < len1 := by simp at hj; omega
            rw [hc j (by omega)]
            simp [List.getD, hj']
        · obtain rfl : len1 = 0 := by omega
          exact .inl ⟨_, _, rfl, by simp⟩
      · simp only [List.length_take]
        omega
  have k2 := h2
  have lt2 : ∀ x ∈ p2, x.block < W.heap.size := by obtain ⟨m, hm⟩ := k2; exact DataW.trod_lt m _ _ _ hm
  obtain ⟨ad2, len2, cap2, rfl⟩ := okWide_slice Try.underlying25 (hval 2 25 v2 rfl rfl)
  obtain ⟨l2, rw2, wf2, by2, nl2⟩ : ∃ l : List Int, SliceAt W (.slice ad2 len2 cap2) l ∧ (∀ z ∈ l, (Lit.int .i32 z).wf = true) ∧ l.length * 4 ≤ 140737488355328 ∧ ∀ {c}, Value.slice ad2 len2 cap2 = .slice none 0 c → c = 0 := by
    obtain ⟨fuel, hf⟩ := h2
    rcases open_ints Try.underlying25 Try.underlying67 (by kernel_rfl) hf with ⟨hcs, _⟩ | ⟨x, l, c, zs, hcs, _, hl, hm, hz, hx, hcell, hwz⟩
    · simp [Value.cells] at hcs
      obtain ⟨rfl, rfl, rfl⟩ := hcs
      exact ⟨[], .inl ⟨_, _, rfl, rfl⟩, by simp, by simp, fun h => by cases h; rfl⟩
    · simp [Value.cells] at hcs
      obtain ⟨rfl, rfl, rfl⟩ := hcs
      simp only [Prod.mk.injEq] at hx
      have hz : zs.length = cap2 := by simpa using hz
      have hs := sized_slice hsz (j := 2) (t := 25) (e := 67) rfl (by rw [hx.1]; rfl) Try.underlying25
      have hb : Try.checked.prog.bytesOf 67 = 4 := by kernel_rfl
      rw [hb] at hs
      simp only [lits, List.length_map, List.length_take, List.length_drop] at hs
      have hr : reachBytes ≤ 140737488355328 := by decide
      refine ⟨zs.take len2, ?_, fun z hz' => hwz z (List.mem_of_mem_take hz'), ?_, fun h => by cases h⟩
      · by_cases hp : 0 < len2
        · obtain ⟨bk, off, rfl, hc⟩ := ints_at hcell (by omega)
          refine .inr ⟨bk, off, cap2, ?_, fun j hj => ?_⟩
          · have : (zs.take len2).length = len2 := by simp; omega
            rw [this]
          · have hj' : j < len2 := by simp at hj; omega
            rw [hc j (by omega)]
            simp [List.getD, hj']
        · obtain rfl : len2 = 0 := by omega
          exact .inl ⟨_, _, rfl, by simp⟩
      · simp only [List.length_take]
        omega
  clear hA0 hval0
  simp only [List.append_nil] at hW'
  refine (walk a0 w0 _ l1 _ l2 W rw1 wf1 by1 nl1 rw2 wf2 by2 nl2).mono fun e W' ⟨he, hg⟩ => ?_
  subst he
  exact ⟨_, rfl, _, _, _, [], _, [], hW', trodAll_mk1 (shut_bool Try.underlying4 _), (trodAll_cons_mk (shut_int Try.underlying3 w0) (trodAll_cons_mk (Below.trod laidOut (by kernel_rfl) (of_decide_eq_true (by kernel_rfl)) k1 hg lt1) (trodAll_cons_mk (Below.trod laidOut (by kernel_rfl) (of_decide_eq_true (by kernel_rfl)) k2 hg lt2) trodAll_mk0))), rfl, hg.frame _, fun h => by cases h⟩

theorem said : Rows.FedPartsSaid :=
  OpenClaim.holds_of_wide 4 Try.f4 rfl rfl rfl rfl rfl rfl rfl ⟨rfl, rfl, rfl, rfl, rfl⟩ rfl rfl rfl rfl rfl (by kernel_rfl) Try.func4 (by kernel_rfl)
    (of_decide_eq_true (by kernel_rfl)) (by unfold Func.isWrapper; first | (rw [if_pos (by decide +kernel)]; kernel_rfl) | (rw [if_neg (by decide +kernel)]; exact ⟨rfl, rfl⟩))
    (fun os started H enc _ => lifted os started H enc)
end Go.Proofs.Ytnfkmpickmonoaa.fedParts
namespace Go.Proofs.Ytnfkmpickmonoaa
theorem fedParts_holds : Rows.FedPartsSaid := fedParts.said
end Go.Proofs.Ytnfkmpickmonoaa
