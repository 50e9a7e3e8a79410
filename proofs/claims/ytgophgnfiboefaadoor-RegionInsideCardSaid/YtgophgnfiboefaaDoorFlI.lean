/- The reference's Dist. -/
import Derived.Test.YtgophgnfiboefaaDoorFlH
namespace Go.Proofs.YtgophgnfiboefaaDoor
open Go.RowKit Wire
open Txt (Row)
open Own
set_option linter.unusedVariables false
set_option linter.unusedSimpArgs false
namespace Flo
end Flo
end Go.Proofs.YtgophgnfiboefaaDoor
