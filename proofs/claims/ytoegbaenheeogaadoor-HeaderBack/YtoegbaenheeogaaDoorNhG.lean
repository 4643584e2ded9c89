import Derived.Test.YtoegbaenheeogaaDoorNhF
namespace Go.Proofs.YtoegbaenheeogaaDoor
open Go.RowKit
set_option linter.unusedVariables false
/-! ### The document's Cut, Records and Pad -/
/-! ### Records, Pad -/
def rcF (n : Int) : Int := if n < 1 then 0 else (n - 1).tdiv 512 + 1
def pdF (n : Int) : Int := if n < 1 then 0 else 511 - (n - 1) % 512
/-! ### HeaderCuts -/
end Go.Proofs.YtoegbaenheeogaaDoor
