import Derived.Test.YtffhpoilifgcdaaDoorVad
import Derived.Lib.Bytealg
import Derived.Lib.MinMax
namespace Go.Proofs.YtffhpoilifgcdaaDoor
open Go.RowKit
set_option linter.unusedVariables false
variable {w : World}
end Go.Proofs.YtffhpoilifgcdaaDoor
