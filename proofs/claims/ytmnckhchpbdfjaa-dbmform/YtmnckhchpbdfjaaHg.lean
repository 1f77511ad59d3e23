/-
  The walk of the statement DbmForm: the errors, and empty zones.
-/
import Derived.Test.YtmnckhchpbdfjaaHf
namespace Go.Proofs.Ytmnckhchpbdfjaa
open Go.RowKit
set_option linter.unusedVariables false
set_option maxRecDepth 100000
set_option maxHeartbeats 1000000 in
theorem form_err (n : Int) (v v' : Value) (e f : Int) (w : World) (h1 : Told w n v e) (h2 : Told w n v' f) (ne : (e != 0) = true ∨ (e = 0 ∧ (f != 0) = true)) :
    Calls Try.prog 3 #[.int .i64 n, v, v'] w fun x w' => x = .returned (.bool true) ∧ Below w.heap.size w w' := by
  have H1 := hideD (h1.1 w (Below.refl _ _))
  have H2 := hideD h2.1
  have H3 := hideD h1.2
  have H4 := hideD h2.2
  clear h1 h2
  rcases ne with ne | ⟨rfl, ne⟩
  all_goals
    go_enter Try.func3, Try.ntmps3
    go_wp2_with fail
    refine H1.out.mono ?_
    rintro x w1 ⟨⟨p1, rfl⟩, hb1⟩
    have C2 := hideD (H2.out _ hb1)
    have B1 := hideD hb1
    clear H1 H2 hb1
    go_wp2_with fail
    refine C2.out.mono ?_
    rintro x w2 ⟨⟨p2, rfl⟩, hb2⟩
    have B2 := hideD (beyondD B1.out hb2)
    have C3 := hideD (H3.out _ B2.out)
    clear C2 hb2 B1 H3
    go_wp2_with fail
    refine C3.out.mono ?_
    rintro x w3 ⟨⟨p3, rfl⟩, hb3⟩
    have B3 := hideD (beyondD B2.out hb3)
    have C4 := hideD (H4.out _ B3.out)
    clear C3 hb3 B2 H4
    go_wp2_with fail
    refine C4.out.mono ?_
    rintro x w4 ⟨⟨p4, rfl⟩, hb4⟩
    have B4 := hideD (beyondD B3.out hb4)
    clear C4 hb4 B3
    go_wp2_with fail
    refine (live_any _).mono ?_
    rintro x w5 ⟨rfl, hb5⟩
    go_wp2_with fail
    go_ret
    exact ⟨rfl, beyondD B4.out hb5⟩
end Go.Proofs.Ytmnckhchpbdfjaa
