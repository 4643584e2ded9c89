import Derived.Test.YtenkchhlaphocaaGreatDoorNjQ
namespace Go.Proofs.YtenkchhlaphocaaGreatDoor
open Go.RowKit
set_option linter.unusedVariables false
theorem str_bys (s : ByteArray) : str (bys s) = s := by
  apply ByteArray.ext
  apply Array.ext'
  show (bys s).map u8 = s.data.toList
  unfold bys
  rw [List.map_map]
  conv => rhs; rw [← List.map_id s.data.toList]
  apply List.map_congr_left
  intro x _
  simp only [Function.comp, id]
  apply UInt8.toNat_inj.1
  rw [u8_nat, BitVec.toNat_ofNat]
  have := x.toNat_lt
  omega
end Go.Proofs.YtenkchhlaphocaaGreatDoor
