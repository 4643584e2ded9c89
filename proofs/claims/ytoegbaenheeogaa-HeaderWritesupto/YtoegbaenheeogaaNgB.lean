import Derived.Test.YtoegbaenheeogaaNgA
namespace Go.Proofs.Ytoegbaenheeogaa
open Go.RowKit
set_option linter.unusedVariables false
end Go.Proofs.Ytoegbaenheeogaa
