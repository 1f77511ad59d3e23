/-
  The walk of the law BoundMakes: for every number and bound it returns true, and nothing that was there has turned; the condition: the library's table of powers of ten lies as its text lays it.
-/
import Derived.Test.YtaagfiebcnnjjaaDoorBb
import Derived.OpenShut
namespace Go.Proofs.YtaagfiebcnnjjaaDoor.boundMakes
open Go.RowKit
set_option maxHeartbeats 400000 in
theorem walk (v : Int) (_hv : (Lit.int .i64 v).wf = true) (b : Int) (hb : (Lit.int .i32 b).wf = true) (w : World) (ht : Pow w) :
    Calls Tryd.prog 3 #[.int .i64 v, .int .i32 b] w fun e w' => e = .returned (.bool true) ∧ Below w.heap.size w w' := by
  obtain ⟨h0, h1⟩ := bounds_i32 hb
  clear hb
  go_enter Tryd.func3, Tryd.ntmps3
  go_wp2_with (first | (go_at_call 8; refine (atMost_any _ _).mono ?_; rintro e w' ⟨rfl, rfl⟩) | (go_at_call 9; refine (ratMost_any _ _).mono ?_; rintro e w' ⟨rfl, rfl⟩) | (go_at_call 10; refine (lessThan_any _ _).mono ?_; rintro e w' ⟨rfl, rfl⟩) | (go_at_call 11; refine (rlessThan_any _ _).mono ?_; rintro e w' ⟨rfl, rfl⟩) | (go_at_call 12; refine (value_any _ _).mono ?_; rintro e w' ⟨rfl, rfl⟩) | (go_at_call 13; refine (rvalue_any _ _ h0 h1).mono ?_; rintro e w' ⟨rfl, rfl⟩) | (go_at_call 14; refine (live_any _ ht).mono ?_; rintro e w' ⟨rfl, hb⟩) | (go_at_call 15; refine (right_any _ _).mono ?_; rintro e w' ⟨rfl, rfl⟩) | (go_at_call 16; refine (rright_any _ _ h0 h1).mono ?_; rintro e w' ⟨rfl, rfl⟩))
  go_ret
  exact ⟨rfl, by assumption⟩
end Go.Proofs.YtaagfiebcnnjjaaDoor.boundMakes
