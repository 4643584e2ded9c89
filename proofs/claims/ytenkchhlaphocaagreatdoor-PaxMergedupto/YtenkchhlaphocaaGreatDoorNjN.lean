import Derived.Test.YtenkchhlaphocaaGreatDoorNjM
namespace Go.Proofs.YtenkchhlaphocaaGreatDoor
open Go.RowKit
set_option linter.unusedVariables false
theorem two_set {W : World} {rs T : Nat} {x : Pr} {a b : Value} (h : W.heap[rs]? = some (.cells (prC x) T)) : ((W.setCell ⟨rs, 0, none⟩ a).setCell ⟨rs, 1, none⟩ b).drew.heap[rs]? = some (.cells #[a, b] T) := by
  show ((W.setCell ⟨rs, 0, none⟩ a).setCell ⟨rs, 1, none⟩ b).heap[rs]? = _
  simp only [World.setCell, Array.getElem?_modify, h]
  simp [prC]
end Go.Proofs.YtenkchhlaphocaaGreatDoor
