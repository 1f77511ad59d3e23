/-
  The statement 'TopWidened' holds: for every input the law returns true and each argument reads afterwards as before; there is no other condition.
-/
import Derived.Test.YtohkbjkfpnhggaaRows
import Derived.Test.YtohkbjkfpnhggaaTw1z
import Derived.WalkKit
import Derived.ProofKit
import Derived.OpenShut
import Derived.ChangeOld
import Derived.Below
import Derived.Carry
import Derived.SizedLaws
namespace Go.Proofs.Ytohkbjkfpnhggaa.topWidened
open Go.ChangeShapes Go.WideShapes Go.ChangeAt Go.RowKit
set_option linter.unusedVariables false

theorem own : ownKnob Try.prog.godebug = none := by kernel_rfl
theorem laidOut : laidOutB Try.prog = true := by kernel_rfl

set_option maxRecDepth 100000 in
theorem lifted (os : Os) (started : os.Started) (H : Type) (enc : TypeId × Value → H) :
    ReturnsInHanded {} Try.checked os 3 .any (Rows.topWidenedSpec.pre6 enc Try.prog Try.f3 Rows.topWidenedRow.domain false) (Rows.topWidenedSpec.post enc Try.prog Try.f3 false true false false) := by
  refine returnsInHanded_of_change_sized (C := Try.checked) own started (by kernel_rfl) Try.func3
    (ChangeSpec.witness6 (enc := enc) (C := Try.checked) false ⟨#[], #[.int .i64 0, .slice none 0 0, .slice none 0 0], []⟩ 8 (by kernel_rfl) (by kernel_rfl) (by kernel_rfl) (by kernel_rfl)) ?_
  intro W base args ds gs before hval0 hW hcnd hsz _
  have hval : ∀ (j : Nat) t v, Try.f3.params[j]? = some t → args[j]? = some v → Value.okWide Try.prog W .any base t v := hval0
  have hW' := hW
  obtain ⟨p, q, hA0, hV, rfl, hfz, hnd⟩ := hW
  have hA : DataW.TrodAll enc Try.prog W 0 (fun _ => true) true Try.f3.params.toList args.toList ds p := hA0
  rw [Try.params3] at hA hval hsz
  obtain ⟨v0, vs0, d0, ds0, p0, q0, hargs, rfl, rfl, h0, r0⟩ := trodAll_cons hA
  obtain ⟨v1, vs1, d1, ds1, p1, q1, rfl, rfl, rfl, h1, r1⟩ := trodAll_cons r0
  obtain ⟨v2, vs2, d2, ds2, p2, q2, rfl, rfl, rfl, h2, r2⟩ := trodAll_cons r1
  obtain ⟨rfl, rfl, rfl⟩ := trodAll_nil r2
  obtain rfl : args = #[v0, v1, v2] := by clear hsz; cases args; simp_all
  obtain ⟨rfl, rfl⟩ := trodVars_none hV
  obtain ⟨a0, rfl, rfl, rfl, w0⟩ := open_int Try.underlying3 (hval 0 3 v0 rfl rfl) h0
  have k1 := h1
  have lt1 : ∀ x ∈ p1, x.block < W.heap.size := by obtain ⟨m, hm⟩ := k1; exact DataW.trod_lt m _ _ _ hm
  obtain ⟨ad1, len1, cap1, rfl⟩ := okWide_slice Try.underlying22 (hval 1 22 v1 rfl rfl)
  obtain ⟨l1, rw1, wf1, by1, nl1⟩ : ∃ L : Lims, LimS W (.slice ad1 len1 cap1) L ∧ (∀ k, k < L.q → -2147483648 ≤ L.b k ∧ L.b k ≤ 2147483647) ∧ L.q * 24 ≤ 140737488355328 ∧ ∀ {c}, Value.slice ad1 len1 cap1 = .slice none 0 c → c = 0 := by
    obtain ⟨fuel, hf⟩ := h1
    rcases open_lims Try.underlying22 Try.underlying43 (by kernel_rfl) rfl rfl rfl (by kernel_rfl) (by kernel_rfl) (by kernel_rfl) Try.underlying3 Try.underlying3 Try.underlying41 hf with hcs | ⟨a, len, cap, ds, ss, L, hcs, hq, hds, hx, hc⟩
    · simp [Value.cells] at hcs
      obtain ⟨rfl, rfl, rfl⟩ := hcs
      exact ⟨L0, .inl ⟨_, _, rfl, rfl⟩, fun k hk => by exact absurd hk (Nat.not_lt_zero _), by decide, fun h => by cases h; rfl⟩
    · simp [Value.cells] at hcs
      obtain ⟨rfl, rfl, rfl⟩ := hcs
      have hs := sized_slice hsz (j := 1) (t := 22) (e := 43) rfl (by show some d1 = _; rw [show d1 = DataW.slice ds ss from hx]) Try.underlying22
      have hb : Try.checked.prog.bytesOf 43 = 24 := by kernel_rfl
      rw [hb] at hs
      have hr : reachBytes ≤ 140737488355328 := by decide
      refine ⟨L, ?_, fun k hk => bounds_i32 (hc k (by omega)).2.2.2, ?_, fun h => by cases h⟩
      · by_cases hp : 0 < len1
        · obtain ⟨bk, off, spot⟩ := a
          have hspot : spot = none := by simpa [Addr.add] using World.cell?_spot (hc 0 hp).1
          subst hspot
          refine .inr ⟨bk, off, cap1, by rw [hq], ?_, fun k hk => ?_⟩
          · have h0 := (hc 0 hp).1
            exact World.block_lt_of_cell? _ _ h0
          · obtain ⟨a1, a2, a3, _⟩ := hc k (by omega)
            rw [Go.WideShapes.add_plain] at a1 a2 a3
            exact ⟨a1, by rw [Nat.add_assoc]; exact a2, by rw [Nat.add_assoc]; exact a3⟩
        · obtain rfl : len1 = 0 := by omega
          exact .inl ⟨_, _, rfl, by omega⟩
      · rw [hds] at hs
        omega
  have k2 := h2
  have lt2 : ∀ x ∈ p2, x.block < W.heap.size := by obtain ⟨m, hm⟩ := k2; exact DataW.trod_lt m _ _ _ hm
  obtain ⟨ad2, len2, cap2, rfl⟩ := okWide_slice Try.underlying23 (hval 2 23 v2 rfl rfl)
  obtain ⟨l2, rw2, wf2, by2, nl2⟩ : ∃ l : List Int, IntsAt W (.slice ad2 len2 cap2) l ∧ (∀ z ∈ l, (Lit.int .i64 z).wf = true) ∧ l.length * 8 ≤ 140737488355328 ∧ ∀ {c}, Value.slice ad2 len2 cap2 = .slice none 0 c → c = 0 := by
    obtain ⟨fuel, hf⟩ := h2
    rcases open_ints Try.underlying23 Try.underlying3 (by kernel_rfl) hf with ⟨hcs, _⟩ | ⟨x, l, c, zs, hcs, _, hl, hm, hz, hx, hcell, hwz⟩
    · simp [Value.cells] at hcs
      obtain ⟨rfl, rfl, rfl⟩ := hcs
      exact ⟨[], .inl ⟨_, _, rfl, rfl⟩, by simp, by simp, fun h => by cases h; rfl⟩
    · simp [Value.cells] at hcs
      obtain ⟨rfl, rfl, rfl⟩ := hcs
      simp only [Prod.mk.injEq] at hx
      have hz : zs.length = cap2 := by simpa using hz
      have hs := sized_slice hsz (j := 2) (t := 23) (e := 3) rfl (by rw [hx.1]; rfl) Try.underlying23
      have hb : Try.checked.prog.bytesOf 3 = 8 := by kernel_rfl
      rw [hb] at hs
      simp only [lits, List.length_map, List.length_take, List.length_drop] at hs
      have hr : reachBytes ≤ 140737488355328 := by decide
      refine ⟨zs.take len2, ?_, fun z hz' => hwz z (List.mem_of_mem_take hz'), ?_, fun h => by cases h⟩
      · by_cases hp : 0 < len2
        · obtain ⟨bk, off, rfl, hc⟩ := ints_at hcell (by omega)
          refine .inr ⟨bk, off, cap2, ?_, fun j hj => ?_⟩
          · have : (zs.take len2).length = len2 := by simp; omega
            rw [this]
          · have hj' : j < len2 := by simp at hj; omega
            rw [hc j (by omega)]
            simp [List.getD, hj']
        · obtain rfl : len2 = 0 := by omega
          exact .inl ⟨_, _, rfl, by simp⟩
      · simp only [List.length_take]
        omega
  clear hA0 hval0
  simp only [List.append_nil] at hW'
  refine (walk a0 w0 _ l1 _ l2 W rw1 wf1 by1 nl1 rw2 wf2 by2 nl2).mono fun e W' ⟨he, hg⟩ => ?_
  subst he
  exact ⟨_, rfl, _, _, _, [], _, [], hW', trodAll_mk1 (shut_bool Try.underlying4 _), (trodAll_cons_mk (shut_int Try.underlying3 w0) (trodAll_cons_mk (Below.trod laidOut (by kernel_rfl) (of_decide_eq_true (by kernel_rfl)) k1 hg lt1) (trodAll_cons_mk (Below.trod laidOut (by kernel_rfl) (of_decide_eq_true (by kernel_rfl)) k2 hg lt2) trodAll_mk0))), rfl, hg.frame _, fun h => by cases h⟩

theorem said : Rows.TopWidenedSaid :=
  OpenClaim.holds_of_wide 3 Try.f3 rfl rfl rfl rfl rfl rfl rfl ⟨rfl, rfl, rfl, rfl, rfl⟩ rfl rfl rfl rfl rfl (by kernel_rfl) Try.func3 (by kernel_rfl)
    (of_decide_eq_true (by kernel_rfl)) (by unfold Func.isWrapper; first | (rw [if_pos (by decide +kernel)]; kernel_rfl) | (rw [if_neg (by decide +kernel)]; exact ⟨rfl, rfl⟩))
    (fun os started H enc _ => lifted os started H enc)
end Go.Proofs.Ytohkbjkfpnhggaa.topWidened
namespace Go.Proofs.Ytohkbjkfpnhggaa
theorem topWidened_holds : Rows.TopWidenedSaid := topWidened.said
end Go.Proofs.Ytohkbjkfpnhggaa
