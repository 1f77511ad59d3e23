/-
  The walk of the statement DbmNone.
-/
import Derived.Test.YtbgdphdlgcefgaaDoorDn
namespace Go.Proofs.YtbgdphdlgcefgaaDoor
open Go.RowKit
set_option linter.unusedVariables false
set_option maxRecDepth 100000
namespace dbmNone
theorem eql_empty : ((⟨#[]⟩ : ByteArray) == (⟨#[]⟩ : ByteArray)) = true := by decide
set_option maxHeartbeats 2000000 in
theorem walk (i : Int) (hi : (Lit.int .i64 i).wf = true) (j : Int) (hj : (Lit.int .i64 j).wf = true) (w : World) :
    Calls Tryd.prog 3 #[.int .i64 i, .int .i64 j] w fun e w' => e = .returned (.bool true) ∧ Below w.heap.size w w' := by
  obtain ⟨d, ed, hd⟩ := map_some univ1
  have HU : Hid (Calls Tryd.prog 5 #[.int .i64 1] w fun e w' => Below w.heap.size w w' ∧ ZoneOut w' w.heap.size 1 e (some d)) := by
    have := universe_any 1 w (by omega)
    rw [ed] at this
    exact this
  go_enter Tryd.func3, Tryd.ntmps3
  go_wp2_with fail
  refine HU.out.mono ?_
  rintro e w1 ⟨hb1, b, l1, rfl, hz⟩
  have B1 := hideD hb1
  clear hb1 hz HU hi hj
  go_wp2_with fail
  refine (cell_nil i j _).mono ?_
  rintro e w' ⟨rfl, rfl⟩
  go_wp2_with fail
  refine (live_any _).mono ?_
  rintro e w2 ⟨rfl, hb2⟩
  have B2 := hideD (beyondD B1.out hb2)
  clear hb2 B1
  go_wp2_with fail
  refine (dim_nil _).mono ?_
  rintro e w' ⟨rfl, rfl⟩
  go_wp2_with fail
  refine (empty_nil _).mono ?_
  rintro e w' ⟨rfl, k, rfl⟩
  have B3 := hideD (below_drewN B2.out k)
  clear B2
  generalize w'.drewN k = W3 at *
  go_wp2_with fail
  refine (cells_nil _).mono ?_
  rintro e w' ⟨rfl, rfl⟩
  go_wp2_with fail
  refine (inc_no none (some ⟨b, 0, none⟩) _ (fun w => alike_nil1 _ w)).mono ?_
  rintro e w' ⟨rfl, k, rfl⟩
  have B4 := hideD (below_drewN B3.out k)
  clear B3
  generalize World.drewN _ k = W4 at *
  go_wp2_with fail
  refine (inc_no (some ⟨b, 0, none⟩) none _ (fun w => alike_nil2 _ w)).mono ?_
  rintro e w' ⟨rfl, k, rfl⟩
  have B5 := hideD (below_drewN B4.out k)
  clear B4
  generalize World.drewN _ k = W5 at *
  go_wp2_with fail
  refine (equal_no none none _ (fun w => alike_nil1 _ w)).mono ?_
  rintro e w' ⟨rfl, k, rfl⟩
  have B6 := hideD (below_drewN B5.out k)
  clear B5
  generalize World.drewN _ k = W6 at *
  go_wp2_with fail
  refine (meets_no (some ⟨b, 0, none⟩) none _ (fun w => alike_nil2 _ w)).mono ?_
  rintro e w' ⟨rfl, k, rfl⟩
  have B7 := hideD (below_drewN B6.out k)
  clear B6
  generalize World.drewN _ k = W7 at *
  go_wp2_with fail
  refine (key_nil _).mono ?_
  rintro e w' ⟨rfl, rfl⟩
  go_wp2_with fail
  refine (print_nil _).mono ?_
  rintro e w' ⟨rfl, hb⟩
  have B8 := hideD (beyondD B7.out hb)
  clear hb
  have es := eql_empty
  go_wp2_with fail
  go_ret
  exact ⟨rfl, B8.out⟩
end dbmNone
end Go.Proofs.YtbgdphdlgcefgaaDoor
