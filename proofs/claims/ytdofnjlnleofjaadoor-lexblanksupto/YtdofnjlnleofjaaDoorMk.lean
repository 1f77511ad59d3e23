/-
  The statement on lex.Next: its walk.
-/
import Derived.Test.YtdofnjlnleofjaaDoorMj
import Derived.Test.YtdofnjlnleofjaaDoorMd
namespace Go.Proofs.YtdofnjlnleofjaaDoor
open Go.RowKit
set_option linter.unusedVariables false
theorem firstM_kind : ∀ l : List UInt8, 0 ≤ (firstM l).2.1 ∧ (firstM l).2.1 ≤ 3
  | [] => by decide
  | c :: l => by
    rw [firstM]
    split
    · exact ⟨(by decide : (0 : Int) ≤ 1), (by decide : (1 : Int) ≤ 3)⟩
    · split
      · generalize List.take (spanL digI (c :: l)) (c :: l) = d
        unfold numM
        split
        · decide
        · cases numU d 0 with
          | none => exact ⟨(by decide : (0 : Int) ≤ 0), (by decide : (0 : Int) ≤ 3)⟩
          | some n => exact ⟨(by decide : (0 : Int) ≤ 2), (by decide : (2 : Int) ≤ 3)⟩
      · split
        · split <;> decide
        · split
          · decide
          · split
            · split <;> decide
            · decide
namespace lexNext
end lexNext
end Go.Proofs.YtdofnjlnleofjaaDoor
