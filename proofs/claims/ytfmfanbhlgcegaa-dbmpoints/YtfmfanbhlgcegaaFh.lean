/-
  The walk of the statement DbmPoints for every input.
-/
import Derived.Test.YtfmfanbhlgcegaaFg
namespace Go.Proofs.Ytfmfanbhlgcegaa
open Go.RowKit
set_option linter.unusedVariables false
set_option maxRecDepth 100000
theorem wf_u32 {l : List Int} (wf : ∀ z ∈ l, (Lit.int .u32 z).wf = true) : ∀ j, j < l.length → 0 ≤ l.getD j 0 ∧ l.getD j 0 ≤ 4294967295 := fun j hj => by
  have e : l.getD j 0 = l[j] := by simp [List.getD, hj]
  rw [e]
  have := wf _ (List.getElem_mem hj)
  have a : IntKind.u32.min = 0 := by decide
  have b : IntKind.u32.max = 4294967295 := by decide
  simp [Lit.wf] at this
  omega
namespace dbmPoints
set_option maxHeartbeats 1000000 in
theorem walk (n : Int) (hn : (Lit.int .i64 n).wf = true) (v : Value) (l : List Int) (vp : Value) (lp : List Int) (w : World) (hS : SliceAt w v l) (wf : ∀ z ∈ l, (Lit.int .i32 z).wf = true) (hby : l.length * 4 ≤ 140737488355328) (hnil : ∀ {c}, v = .slice none 0 c → c = 0) (hP : PointAt w vp lp) (wf' : ∀ z ∈ lp, (Lit.int .u32 z).wf = true) (hby' : lp.length * 4 ≤ 140737488355328) (hnil' : ∀ {c}, vp = .slice none 0 c → c = 0) :
    Calls Try.prog 3 #[.int .i64 n, v, vp] w fun e w' => e = .returned (.bool true) ∧ Below w.heap.size w w' := by
  have hu := wf_u32 wf'
  rcases of_tells n v l w hS (wf_list wf) (by omega) with ⟨e, ne, h1, h2⟩ | ⟨N, c, cb, off, cap, rfl, N8, hl, rfl, hR, hr, hz, h1⟩
  · have H1 := hideD (h1 w (Below.refl _ _))
    have H2 := hideD h2
    clear h1 h2 hS hP wf wf' hu hnil hnil' hby hby' hn
    go_enter Try.func3, Try.ntmps3
    go_wp2_with fail
    refine H1.out.mono ?_
    rintro x w1 ⟨rfl, hb1⟩
    have H3 := hideD (H2.out _ hb1)
    have B1 := hideD hb1
    clear H1 H2 hb1
    go_wp2_with fail
    refine H3.out.mono ?_
    rintro x w2 ⟨rfl, hb2⟩
    have B2 := hideD (beyondD B1.out hb2)
    clear H3 hb2 B1
    go_wp2_with fail
    refine (live_any _).mono ?_
    rintro x w3 ⟨rfl, hb3⟩
    go_wp2_with fail
    go_ret
    exact ⟨rfl, beyondD B2.out hb3⟩
  · rw [hl] at hr hz ⊢
    have h1' := h1 w (Below.refl _ _)
    rw [hl] at h1'
    exact points_walk N _ cb off cap c l lp vp w N8 rfl hl hR hr hz h1' hP hu (by omega)
end dbmPoints
end Go.Proofs.Ytfmfanbhlgcegaa
