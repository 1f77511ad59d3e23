/-
  The statement 'PointCompares' holds: for every input the law returns true and each argument reads afterwards as before; there is no other condition.
-/
import Derived.Test.YtjbimdehghnbhaaRows
import Derived.Test.YtjbimdehghnbhaaPtHz
import Derived.WalkKit
import Derived.ProofKit
import Derived.OpenShut
import Derived.ChangeOld
import Derived.Below
import Derived.Carry
import Derived.SizedLaws
namespace Go.Proofs.Ytjbimdehghnbhaa.pointCompares
open Go.ChangeShapes Go.WideShapes Go.ChangeAt Go.RowKit
set_option linter.unusedVariables false

theorem own : ownKnob Try.prog.godebug = none := by kernel_rfl
theorem laidOut : laidOutB Try.prog = true := by kernel_rfl

set_option maxRecDepth 100000 in
theorem lifted (os : Os) (started : os.Started) (H : Type) (enc : TypeId × Value → H) :
    ReturnsInHanded {} Try.checked os 3 .any (Rows.pointComparesSpec.pre6 enc Try.prog Try.f3 Rows.pointComparesRow.domain false) (Rows.pointComparesSpec.post enc Try.prog Try.f3 false true false false) := by
  refine returnsInHanded_of_change_sized (C := Try.checked) own started (by kernel_rfl) Try.func3
    (ChangeSpec.witness6 (enc := enc) (C := Try.checked) false ⟨#[], #[.slice none 0 0, .slice none 0 0], []⟩ 8 (by kernel_rfl) (by kernel_rfl) (by kernel_rfl) (by kernel_rfl)) ?_
  intro W base args ds gs before hval0 hW hcnd hsz _
  have hval : ∀ (j : Nat) t v, Try.f3.params[j]? = some t → args[j]? = some v → Value.okWide Try.prog W .any base t v := hval0
  have hW' := hW
  obtain ⟨p, q, hA0, hV, rfl, hfz, hnd⟩ := hW
  have hA : DataW.TrodAll enc Try.prog W 0 (fun _ => true) true Try.f3.params.toList args.toList ds p := hA0
  rw [Try.params3] at hA hval hsz
  obtain ⟨v0, vs0, d0, ds0, p0, q0, hargs, rfl, rfl, h0, r0⟩ := trodAll_cons hA
  obtain ⟨v1, vs1, d1, ds1, p1, q1, rfl, rfl, rfl, h1, r1⟩ := trodAll_cons r0
  obtain ⟨rfl, rfl, rfl⟩ := trodAll_nil r1
  obtain rfl : args = #[v0, v1] := by clear hsz; cases args; simp_all
  obtain ⟨rfl, rfl⟩ := trodVars_none hV
  have k0 := h0
  have lt0 : ∀ x ∈ p0, x.block < W.heap.size := by obtain ⟨m, hm⟩ := k0; exact DataW.trod_lt m _ _ _ hm
  obtain ⟨ad0, len0, cap0, rfl⟩ := okWide_slice Try.underlying22 (hval 0 22 v0 rfl rfl)
  obtain ⟨l0, rw0, wf0, by0⟩ : ∃ L : Rats, RatS W (.slice ad0 len0 cap0) L ∧ (∀ k, k < L.q → (Lit.int .i64 (L.n k)).wf = true ∧ (Lit.int .i64 (L.d k)).wf = true) ∧ L.q * 16 ≤ 140737488355328 := by
    obtain ⟨fuel, hf⟩ := h0
    rcases open_rats Try.underlying22 Try.underlying36 (by kernel_rfl) rfl rfl (by kernel_rfl) (by kernel_rfl) Try.underlying2 Try.underlying2 hf with hcs | ⟨a, len, cap, ds, ss, L, hcs, hq, hds, hx, hc⟩
    · simp [Value.cells] at hcs
      obtain ⟨rfl, rfl, rfl⟩ := hcs
      exact ⟨⟨0, fun _ => 0, fun _ => 0⟩, ⟨_, _, rfl, fun _ => ⟨rfl, rfl⟩, fun k hk => absurd hk (Nat.not_lt_zero _)⟩, fun k hk => absurd hk (Nat.not_lt_zero _), by decide⟩
    · simp [Value.cells] at hcs
      obtain ⟨rfl, rfl, rfl⟩ := hcs
      have hs := sized_slice hsz (j := 0) (t := 22) (e := 36) rfl (by show some d0 = _; rw [show d0 = DataW.slice ds ss from hx]) Try.underlying22
      have hb : Try.checked.prog.bytesOf 36 = 16 := by kernel_rfl
      rw [hb] at hs
      have hr : reachBytes ≤ 140737488355328 := by decide
      refine ⟨L, ⟨some a, cap0, by rw [hq], fun h => (by cases h), fun k hk => ?_⟩, fun k hk => (hc k (by omega)).2.2, ?_⟩
      · obtain ⟨bk, off, spot⟩ := a
        obtain ⟨a1, a2, _, _⟩ := hc k (by omega)
        have hspot : spot = none := by simpa [Addr.add] using World.cell?_spot (hc 0 (by omega)).1
        subst hspot
        rw [Go.WideShapes.add_plain] at a1 a2
        exact ⟨bk, off, rfl, a1, by rw [Nat.add_assoc]; exact a2⟩
      · rw [hds] at hs
        omega
  have k1 := h1
  have lt1 : ∀ x ∈ p1, x.block < W.heap.size := by obtain ⟨m, hm⟩ := k1; exact DataW.trod_lt m _ _ _ hm
  obtain ⟨ad1, len1, cap1, rfl⟩ := okWide_slice Try.underlying22 (hval 1 22 v1 rfl rfl)
  obtain ⟨l1, rw1, wf1, by1⟩ : ∃ L : Rats, RatS W (.slice ad1 len1 cap1) L ∧ (∀ k, k < L.q → (Lit.int .i64 (L.n k)).wf = true ∧ (Lit.int .i64 (L.d k)).wf = true) ∧ L.q * 16 ≤ 140737488355328 := by
    obtain ⟨fuel, hf⟩ := h1
    rcases open_rats Try.underlying22 Try.underlying36 (by kernel_rfl) rfl rfl (by kernel_rfl) (by kernel_rfl) Try.underlying2 Try.underlying2 hf with hcs | ⟨a, len, cap, ds, ss, L, hcs, hq, hds, hx, hc⟩
    · simp [Value.cells] at hcs
      obtain ⟨rfl, rfl, rfl⟩ := hcs
      exact ⟨⟨0, fun _ => 0, fun _ => 0⟩, ⟨_, _, rfl, fun _ => ⟨rfl, rfl⟩, fun k hk => absurd hk (Nat.not_lt_zero _)⟩, fun k hk => absurd hk (Nat.not_lt_zero _), by decide⟩
    · simp [Value.cells] at hcs
      obtain ⟨rfl, rfl, rfl⟩ := hcs
      have hs := sized_slice hsz (j := 1) (t := 22) (e := 36) rfl (by show some d1 = _; rw [show d1 = DataW.slice ds ss from hx]) Try.underlying22
      have hb : Try.checked.prog.bytesOf 36 = 16 := by kernel_rfl
      rw [hb] at hs
      have hr : reachBytes ≤ 140737488355328 := by decide
      refine ⟨L, ⟨some a, cap1, by rw [hq], fun h => (by cases h), fun k hk => ?_⟩, fun k hk => (hc k (by omega)).2.2, ?_⟩
      · obtain ⟨bk, off, spot⟩ := a
        obtain ⟨a1, a2, _, _⟩ := hc k (by omega)
        have hspot : spot = none := by simpa [Addr.add] using World.cell?_spot (hc 0 (by omega)).1
        subst hspot
        rw [Go.WideShapes.add_plain] at a1 a2
        exact ⟨bk, off, rfl, a1, by rw [Nat.add_assoc]; exact a2⟩
      · rw [hds] at hs
        omega
  clear hA0 hval0
  simp only [List.append_nil] at hW'
  refine (walk _ l0 _ l1 W rw0 wf0 by0 rw1 wf1 by1).mono fun e W' ⟨he, hg⟩ => ?_
  subst he
  exact ⟨_, rfl, _, _, _, [], _, [], hW', trodAll_mk1 (shut_bool Try.underlying4 _), (trodAll_cons_mk (Below.trod laidOut (by kernel_rfl) (of_decide_eq_true (by kernel_rfl)) k0 hg lt0) (trodAll_cons_mk (Below.trod laidOut (by kernel_rfl) (of_decide_eq_true (by kernel_rfl)) k1 hg lt1) trodAll_mk0)), rfl, hg.frame _, fun h => by cases h⟩

theorem said : Rows.PointComparesSaid :=
  OpenClaim.holds_of_wide 3 Try.f3 rfl rfl rfl rfl rfl rfl rfl ⟨rfl, rfl, rfl, rfl, rfl⟩ rfl rfl rfl rfl rfl (by kernel_rfl) Try.func3 (by kernel_rfl)
    (of_decide_eq_true (by kernel_rfl)) (by unfold Func.isWrapper; first | (rw [if_pos (by decide +kernel)]; kernel_rfl) | (rw [if_neg (by decide +kernel)]; exact ⟨rfl, rfl⟩))
    (fun os started H enc _ => lifted os started H enc)
end Go.Proofs.Ytjbimdehghnbhaa.pointCompares
namespace Go.Proofs.Ytjbimdehghnbhaa
theorem pointCompares_holds : Rows.PointComparesSaid := pointCompares.said
end Go.Proofs.Ytjbimdehghnbhaa
