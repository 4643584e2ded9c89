/-
  DERIVED. GIVEN WITH THE SEED: THE CARDS: each row of YtenkchhlaphocaaGreatDoorRows.lean that lists a variable, with what it lists TIED to the program's text (the seventh form; the later family's looks); each row that meets fmt, with fmt's text TOLD by the authors' own Lean function (tested against real Go, not proved from fmt's source: count such statements apart). THE CARD IS WHAT COUNTS. Prove the row's statement (the work); the ties are given (YtenkchhlaphocaaGreatDoorTie.lean); close each card by the builder's one call (the guide's Derived/Test/ToyasCard.lean, 'card_holds'). Laid BY PROGRAM, IN A SANDBOX (cutbox-door.mjs). By AI agents, Wed Nov 11 2026. No macro, syntax, notation, axiom, sorry.
-/
import Derived.Test.YtenkchhlaphocaaGreatDoorRows
import GoSem.ClaimSeven
namespace Go.Proofs.YtenkchhlaphocaaGreatDoor
namespace Rows

/-- THE TIED CARD OF 'satchellaw14.PaxMerged'. -/
def paxMergedCard : Claim7 := { stood := { row := paxMergedRow, standIns := [], harness := (true, "06640916ab8ad4854c86d74d0f353caf615cd663ee02b184ab5f46ec4681d06d"), looks := true }, kinds := [], alts := [], laidByText := true, laidKinds := [.data, .data, .data, .data, .sentinel, .sentinel, .pinned], laidTests := true, laidLooks := .later }
def PaxMergedCardSaid : Prop := Claim7.holds Tryz.pinned (.plain (OpenSpec.ofChange paxMergedSpec)) paxMergedCard

/-- THE SECOND FORM's CARD OF 'satchellaw14.PaxMerged'. -/
def paxMergedUptoCard : Claim7 := { stood := { row := paxMergedUptoRow, standIns := [], harness := (true, "06640916ab8ad4854c86d74d0f353caf615cd663ee02b184ab5f46ec4681d06d"), looks := true }, kinds := [], alts := [], laidByText := true, laidKinds := [.data, .data, .data, .data, .sentinel, .sentinel, .pinned], laidTests := true, laidLooks := .later }
def PaxMergedUptoCardSaid : Prop := Claim7.holds Tryz.pinned (.plain (OpenSpec.upto paxMergedSpec)) paxMergedUptoCard
end Rows
end Go.Proofs.YtenkchhlaphocaaGreatDoor
