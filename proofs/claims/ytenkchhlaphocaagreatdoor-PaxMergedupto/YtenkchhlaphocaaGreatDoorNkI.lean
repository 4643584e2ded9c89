import Derived.Test.YtenkchhlaphocaaGreatDoorNjX
import Derived.Test.YtenkchhlaphocaaGreatDoorNjM
namespace Go.Proofs.YtenkchhlaphocaaGreatDoor
open Go.RowKit
set_option linter.unusedVariables false
/-! ### The document's Decimal, Number, PutNumber -/
theorem lit1 (w : World) (n : Nat) (h : n < 10) : Sl (fun _ => False) (.slice (some ⟨w.heap.size, 0, none⟩) 1 1) (dec n) (w.alloc (.cells #[.int .u8 (48 + (n : Int))] 5)) := by
  rw [dec_small h]
  refine .inr ⟨w.heap.size, fun h => h, 0, 1, rfl, by simp, by decide, fun j hj => ?_⟩
  have hh := newHeap w (.cells #[.int .u8 (48 + (n : Int))] 5)
  have hj5 : j < 1 := hj
  obtain rfl : j = 0 := by omega
  unfold World.cell?
  rw [hh]
  have e : (Value.int .u8 (48 + (n : Int))) = bv (BitVec.ofNat 8 (48 + n)) := by
    unfold bv
    rw [(isD_of n h).2]
    congr 1
  show some (Value.int .u8 (48 + (n : Int))) = some (bv (BitVec.ofNat 8 (48 + n)))
  rw [e]
theorem dec_cut (n : Nat) (h : ¬ n < 10) : dec n = dec (n / 10) ++ dec (n % 10) := by
  rw [dec_big h, dec_small (show n % 10 < 10 by omega)]
end Go.Proofs.YtenkchhlaphocaaGreatDoor
