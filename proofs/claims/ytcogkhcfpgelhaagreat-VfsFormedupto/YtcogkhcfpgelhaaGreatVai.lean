import Derived.Test.YtcogkhcfpgelhaaGreatVah
import Derived.Lib.AppendZeros
namespace Go.Proofs.YtcogkhcfpgelhaaGreat
open Go.RowKit
set_option linter.unusedVariables false
end Go.Proofs.YtcogkhcfpgelhaaGreat
