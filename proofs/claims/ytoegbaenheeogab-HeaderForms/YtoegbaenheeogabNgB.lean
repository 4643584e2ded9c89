import Derived.Test.YtoegbaenheeogabNgA
namespace Go.Proofs.Ytoegbaenheeogab
open Go.RowKit
set_option linter.unusedVariables false
end Go.Proofs.Ytoegbaenheeogab
