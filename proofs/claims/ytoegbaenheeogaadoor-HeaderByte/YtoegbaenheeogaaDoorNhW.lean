import Derived.Test.YtoegbaenheeogaaDoorNhV
namespace Go.Proofs.YtoegbaenheeogaaDoor
open Go.RowKit
set_option linter.unusedVariables false
/-! ### HeaderByte -/
theorem zrec_dec : decE zrec = 131 := by
  have : chk zrec = false := by
    unfold chk
    rw [zsum1, zsum2]
    have hf : fld zrec = List.replicate 8 0#8 := by decide +kernel
    rw [hf]
    have hn : octN (List.replicate 8 0#8) = 0 := by decide +kernel
    rw [hn]
    simp
  unfold decE
  rw [this]
  rfl
theorem xor_u8 (a b : By) : bits .xor .u8 (a.toNat : Int) (b.toNat : Int) = ((a ^^^ b).toNat : Int) := by
  revert a b
  decide +kernel
end Go.Proofs.YtoegbaenheeogaaDoor
