import Derived.Test.YtoegbaenheeogaaNfI
import Derived.BigRegion
import Derived.OwnWalk
import Derived.Lib.SlBytesConst
namespace Go.Proofs.Ytoegbaenheeogaa
open Go.RowKit
set_option linter.unusedVariables false
theorem lit0 (w : World) : (w.alloc (.cells #[.int .u8 0] 5 (1, 2))).cell? ⟨w.heap.size, 0, none⟩ = some (.int .u8 0) := by
  have : (w.alloc (.cells #[.int .u8 0] 5 (1, 2))).heap[w.heap.size]? = some (.cells #[.int .u8 0] 5 (1, 2)) := newHeap _ _
  unfold World.cell?
  rw [this]
  rfl
end Go.Proofs.Ytoegbaenheeogaa
