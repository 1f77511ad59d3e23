/-
  The statement on names and lines: its walk.
-/
import Derived.Test.YtabjadbpllhgkaaDoorMj
import Derived.Test.YtabjadbpllhgkaaDoorMl
import Derived.Test.YtabjadbpllhgkaaDoorMm
namespace Go.Proofs.YtabjadbpllhgkaaDoor
open Go.RowKit
set_option linter.unusedVariables false
namespace lexNames
set_option maxRecDepth 100000 in
set_option maxHeartbeats 1000000 in
theorem walk (s : ByteArray) (_ : s.size ≤ maxLen) (i : Int) (wf : (Lit.int .i64 i).wf = true) (w : World) (hk : Kept w) (hs : s.size ≤ 140737488355328) :
    Calls Tryd.prog 5 #[.string s, .int .i64 i] w fun e w' => e = .returned (.bool true) ∧ Below w.heap.size w w' := by
  have N1 := hideR (line_any s i wf w hs)
  have N2 := hideR (xline_any s i wf w hs)
  have N3 := hideR (live_any w hk)
  have N4 := hideR (fun w h => isName_any s w h hs)
  have N5 := hideR (fun w => xname_any s w hs)
  have HK := hideR hk
  have c0 := cnt_le s (placeN s i)
  have c1 := place_le s i
  generalize cntP s (placeN s i) = cn at *
  generalize colP s (placeN s i) = cl at *
  generalize nameL s.data.toList = nm at *
  clear hk
  go_enter Tryd.func5, Tryd.ntmps5
  go_wp2_with fail
  refine N1.out.mono ?_
  rintro e w1 ⟨rfl, rfl⟩
  go_wp2_with fail
  refine N2.out.mono ?_
  rintro e w1 ⟨rfl, rfl⟩
  go_wp2_with fail
  refine N3.out.mono ?_
  rintro e w1 ⟨rfl, hb1⟩
  have HK1 := hideR (kept_later HK.out hb1)
  clear HK N1 N2 N3
  go_wp2_with fail
  refine (N4.out _ HK1.out).mono ?_
  rintro e w2 ⟨rfl, rfl⟩
  go_wp2_with fail
  refine (N5.out _).mono ?_
  rintro e w3 ⟨rfl, hb2⟩
  have hb := beyond hb1 hb2
  clear hb1 hb2
  go_wp2_with fail
  go_ret
  exact ⟨rfl, hb⟩
end lexNames
end Go.Proofs.YtabjadbpllhgkaaDoor
