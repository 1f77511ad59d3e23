/-
  The contracts of rat.Sub and rat.Mul, by those of what they call.
-/
import Derived.Test.YtmpdicjjaoeblaaDoorVa
namespace Go.Proofs.YtmpdicjjaoeblaaDoor
open Go.RowKit Go.Shelf
set_option linter.unusedVariables false
end Go.Proofs.YtmpdicjjaoeblaaDoor
