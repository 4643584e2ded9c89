import Derived.Test.YtffhpoilifgcdaaDoorVad
import Derived.Lib.MinMax
namespace Go.Proofs.YtffhpoilifgcdaaDoor
open Go.RowKit
set_option linter.unusedVariables false
set_option maxHeartbeats 2000000
set_option maxRecDepth 100000
/-- Eight blanks. -/
def bl8 : ByteArray := ⟨#[32, 32, 32, 32, 32, 32, 32, 32]⟩
end Go.Proofs.YtffhpoilifgcdaaDoor
