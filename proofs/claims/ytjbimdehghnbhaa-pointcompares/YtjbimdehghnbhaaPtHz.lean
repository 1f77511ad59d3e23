/-
  The walk of PointCompares.
-/
import Derived.Test.YtjbimdehghnbhaaPtFz
import Derived.Test.YtjbimdehghnbhaaPtEz
import Derived.Test.YtjbimdehghnbhaaPtGz
import Derived.Test.YtjbimdehghnbhaaPtOz
namespace Go.Proofs.Ytjbimdehghnbhaa
open Go.RowKit Go.Shelf Go.ChangeShapes Go.WideShapes Go.ChangeAt
set_option linter.unusedVariables false
set_option maxRecDepth 100000
theorem pointCompares.walk (v : Value) (L : Rats) (v' : Value) (M : Rats) (w : World) (hS : RatS w v L) (wf : ∀ k, k < L.q → (Lit.int .i64 (L.n k)).wf = true ∧ (Lit.int .i64 (L.d k)).wf = true) (hby : L.q * 16 ≤ 140737488355328) (hS' : RatS w v' M) (wf' : ∀ k, k < M.q → (Lit.int .i64 (M.n k)).wf = true ∧ (Lit.int .i64 (M.d k)).wf = true) (hby' : M.q * 16 ≤ 140737488355328) :
    Calls Try.prog 3 #[v, v'] w fun e w' => e = .returned (.bool true) ∧ Below w.heap.size w w' := by
  obtain ⟨ad, cap, rfl, hnil, hV⟩ := hS
  obtain ⟨ad', cap', rfl, hnil', hV'⟩ := hS'
  have iL : RatI L := fun k hk => ⟨bounds_i64 (wf k hk).1, bounds_i64 (wf k hk).2⟩
  have iM : RatI M := fun k hk => ⟨bounds_i64 (wf' k hk).1, bounds_i64 (wf' k hk).2⟩
  have H0 := hideD (plive_any w)
  have HV := hideD hV
  have HV' := hideD hV'
  have HP := hideD (fun W (hb : Below w.heap.size w W) => pcompare_any (.slice ad L.q cap) (.slice ad' M.q cap') (cmpLL L M) W (hideD (cmpFunc_any ad ad' cap cap' L.q M.q L M W rfl rfl (by omega) (by omega) (HV.out.later hb) (HV'.out.later hb) iL iM)))
  have HR := hideD (fun W (hb : Below w.heap.size w W) => rcompare06_any ad ad' cap cap' L.q M.q L M W rfl rfl (by omega) (by omega) (HV.out.later hb) (HV'.out.later hb) iL iM)
  clear hV hV' HV HV' iL iM wf wf' hnil hnil' hby hby'
  generalize cmpLL L M = R at HP HR
  generalize L.q = p at HP HR ⊢
  generalize M.q = q at HP HR ⊢
  go_enter Try.func3, Try.ntmps3
  go_wp2_with fail
  refine H0.out.mono ?_
  rintro e w1 ⟨rfl, hb1⟩
  have H1 := hideD (HP.out w1 hb1)
  have B1 := hideD hb1
  clear HP H0 hb1
  go_wp2_with fail
  refine H1.out.mono ?_
  rintro e w2 ⟨rfl, hb2⟩
  have B2 := hideD (beyondD B1.out hb2)
  have H2 := hideD (HR.out w2 B2.out)
  clear HR H1 B1 hb2
  go_wp2_with fail
  refine H2.out.mono ?_
  rintro e w3 ⟨rfl, hb3⟩
  have B3 := hideD (beyondD B2.out hb3)
  clear H2 B2 hb3
  go_wp2_with fail
  go_ret
  exact ⟨by simp, B3.out⟩
end Go.Proofs.Ytjbimdehghnbhaa
