import Derived.Test.YtcogkhcfpgelhabGreatPtD
import Derived.Lib.AppendZeros
namespace Go.Proofs.YtcogkhcfpgelhabGreat
open Go.RowKit
set_option linter.unusedVariables false
end Go.Proofs.YtcogkhcfpgelhabGreat
