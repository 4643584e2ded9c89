/-
  DERIVED. GIVEN WITH THE SEED: THE CARDS: each row of YtiinalgflmgnaabDoorRows.lean that lists a variable, with what it lists TIED to the program's text (the seventh form; the later family's looks); each row that meets fmt, with fmt's text TOLD by the authors' own Lean function (tested against real Go, not proved from fmt's source: count such statements apart). THE CARD IS WHAT COUNTS. Prove the row's statement (the work); the ties are given (YtiinalgflmgnaabDoorTie.lean); close each card by the builder's one call (the guide's Derived/Test/ToyasCard.lean, 'card_holds'). Laid BY PROGRAM, IN A SANDBOX (cutbox-door.mjs). By AI agents, Wed Nov 11 2026. No macro, syntax, notation, axiom, sorry.
-/
import Derived.Test.YtiinalgflmgnaabDoorRows
import GoSem.ClaimSeven
namespace Go.Proofs.YtiinalgflmgnaabDoor
namespace Rows

/-- THE TIED CARD OF 'satchellaw12.FieldRise'. -/
def fieldRiseCard : Claim7 := { stood := { row := fieldRiseRow, standIns := [], harness := (true, "e13dc86842529f6b66cbedcc43de7dbd97496a98ae5fbcc25a17c4c5527569e3"), looks := false }, kinds := [], alts := [], laidByText := true, laidKinds := [.data, .pinned], laidTests := true, laidLooks := .later }
def FieldRiseCardSaid : Prop := Claim7.holds Tryd.pinned (.plain (OpenSpec.ofChange fieldRiseSpec)) fieldRiseCard

/-- THE SECOND FORM's CARD OF 'satchellaw12.FieldRise'. -/
def fieldRiseUptoCard : Claim7 := { stood := { row := fieldRiseUptoRow, standIns := [], harness := (true, "e13dc86842529f6b66cbedcc43de7dbd97496a98ae5fbcc25a17c4c5527569e3"), looks := false }, kinds := [], alts := [], laidByText := true, laidKinds := [.data, .pinned], laidTests := true, laidLooks := .later }
def FieldRiseUptoCardSaid : Prop := Claim7.holds Tryd.pinned (.plain (OpenSpec.upto fieldRiseSpec)) fieldRiseUptoCard
end Rows
end Go.Proofs.YtiinalgflmgnaabDoor
