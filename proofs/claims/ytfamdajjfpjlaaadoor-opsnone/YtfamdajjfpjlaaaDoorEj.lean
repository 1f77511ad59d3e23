/-
  What 'both' tells where both tell a zone.
-/
import Derived.Test.YtfamdajjfpjlaaaDoorEi
namespace Go.Proofs.YtfamdajjfpjlaaaDoor
open Go.RowKit
set_option linter.unusedVariables false
set_option maxRecDepth 100000
end Go.Proofs.YtfamdajjfpjlaaaDoor
