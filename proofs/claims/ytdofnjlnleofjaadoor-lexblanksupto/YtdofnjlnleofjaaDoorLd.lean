/-
  The document's begin.
-/
import Derived.Test.YtdofnjlnleofjaaDoorLc
namespace Go.Proofs.YtdofnjlnleofjaaDoor
open Go.RowKit
set_option linter.unusedVariables false
theorem span_drop (s : ByteArray) (k : Nat) (h : k < s.size) : (feedI (s[k].toNat : Int) = true → spanL feedI (s.data.toList.drop k) = spanL feedI (s.data.toList.drop (k + 1)) + 1) ∧ (feedI (s[k].toNat : Int) = false → spanL feedI (s.data.toList.drop k) = 0) := by
  have d := drop_next s k h
  exact ⟨fun g => by rw [d, spanL, if_pos g], fun g => by rw [d, spanL, if_neg (by rw [g]; decide)]⟩
end Go.Proofs.YtdofnjlnleofjaaDoor
