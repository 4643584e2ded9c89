/-
  DERIVED. GIVEN WITH THE SEED: THE CARDS: each row of YtoegbaenheeogaaDoorRows.lean that lists a variable, with what it lists TIED to the program's text (the seventh form; the later family's looks); each row that meets fmt, with fmt's text TOLD by the authors' own Lean function (tested against real Go, not proved from fmt's source: count such statements apart). THE CARD IS WHAT COUNTS. Prove the row's statement (the work); the ties are given (YtoegbaenheeogaaDoorTie.lean); close each card by the builder's one call (the guide's Derived/Test/ToyasCard.lean, 'card_holds'). Laid BY PROGRAM, IN A SANDBOX (cutbox-door.mjs). By AI agents, Wed Nov 11 2026. No macro, syntax, notation, axiom, sorry.
-/
import Derived.Test.YtoegbaenheeogaaDoorRows
import GoSem.ClaimSeven
namespace Go.Proofs.YtoegbaenheeogaaDoor
namespace Rows

/-- THE TIED CARD OF 'satchellaw13.HeaderBack'. -/
def headerBackCard : Claim7 := { stood := { row := headerBackRow, standIns := [], harness := (true, "3bcad80395be9eefc9949fe146fd53b37709b5a16bd927e290f49c54ffeed294"), looks := false }, kinds := [], alts := [], laidByText := true, laidKinds := [.data, .pinned], laidTests := true, laidLooks := .later }
def HeaderBackCardSaid : Prop := Claim7.holds Tryd.pinned (.plain (OpenSpec.ofChange headerBackSpec)) headerBackCard

/-- THE TIED CARD OF 'satchellaw13.HeaderByte'. -/
def headerByteCard : Claim7 := { stood := { row := headerByteRow, standIns := [], harness := (true, "3bcad80395be9eefc9949fe146fd53b37709b5a16bd927e290f49c54ffeed294"), looks := false }, kinds := [], alts := [], laidByText := true, laidKinds := [.data, .pinned], laidTests := true, laidLooks := .later }
def HeaderByteCardSaid : Prop := Claim7.holds Tryd.pinned (.plain (OpenSpec.ofChange headerByteSpec)) headerByteCard

/-- THE SECOND FORM's CARD OF 'satchellaw13.HeaderBack'. -/
def headerBackUptoCard : Claim7 := { stood := { row := headerBackUptoRow, standIns := [], harness := (true, "3bcad80395be9eefc9949fe146fd53b37709b5a16bd927e290f49c54ffeed294"), looks := false }, kinds := [], alts := [], laidByText := true, laidKinds := [.data, .pinned], laidTests := true, laidLooks := .later }
def HeaderBackUptoCardSaid : Prop := Claim7.holds Tryd.pinned (.plain (OpenSpec.upto headerBackSpec)) headerBackUptoCard

/-- THE SECOND FORM's CARD OF 'satchellaw13.HeaderByte'. -/
def headerByteUptoCard : Claim7 := { stood := { row := headerByteUptoRow, standIns := [], harness := (true, "3bcad80395be9eefc9949fe146fd53b37709b5a16bd927e290f49c54ffeed294"), looks := false }, kinds := [], alts := [], laidByText := true, laidKinds := [.data, .pinned], laidTests := true, laidLooks := .later }
def HeaderByteUptoCardSaid : Prop := Claim7.holds Tryd.pinned (.plain (OpenSpec.upto headerByteSpec)) headerByteUptoCard
end Rows
end Go.Proofs.YtoegbaenheeogaaDoor
