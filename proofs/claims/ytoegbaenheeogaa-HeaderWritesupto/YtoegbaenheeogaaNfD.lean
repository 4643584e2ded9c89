import Derived.Test.YtoegbaenheeogaaNfC
import Derived.Lib.AsciiSet
import Derived.Laws.ResultCell
import Derived.Deep.WholeRow
import Derived.Lib.Strings
namespace Go.Proofs.Ytoegbaenheeogaa
open Go.RowKit
set_option linter.unusedVariables false
def AS : Array Value := Lib.setCells [32, 0]
theorem as_size : AS.size = 256 := Lib.setCells_size _
theorem q_as : ∀ (x : By), ((UInt8.ofBitVec x == 32) || (UInt8.ofBitVec x == 0)) = decide (x = 32#8 ∨ x = 0#8) := by decide +kernel
theorem as_at (x : By) : AS[x.toNat]? = some (.bool (isBz x)) := by
  unfold AS
  have h := Lib.setCells_at [32, 0] (UInt8.ofBitVec x)
  have e : (UInt8.ofBitVec x).toNat = x.toNat := rfl
  rw [e] at h
  rw [h, List.contains_cons, List.contains_cons, List.contains_nil, Bool.or_false, q_as]
  rfl
theorem newHeap (w : World) (o : Obj) : (w.alloc o).heap[w.heap.size]? = some o := by
  show (w.heap.push o)[w.heap.size]? = some o
  simp
theorem as_one : AS.all (·.oneCell') = true := Lib.setCells_one _
/-- The zero of the set, by a name of our own (for a seat whose load gives it none). -/
def zAs : Array Value := Lib.setCells ([] : List UInt8)
end Go.Proofs.Ytoegbaenheeogaa
