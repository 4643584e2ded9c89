import Derived.Test.YtcogkhcfpgelhabPtD
import Derived.Lib.AppendZeros
namespace Go.Proofs.Ytcogkhcfpgelhab
open Go.RowKit
set_option linter.unusedVariables false
end Go.Proofs.Ytcogkhcfpgelhab
