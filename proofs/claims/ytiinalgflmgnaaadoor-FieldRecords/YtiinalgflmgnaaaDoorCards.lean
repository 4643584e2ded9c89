/-
  DERIVED. GIVEN WITH THE SEED: THE CARDS: each row of YtiinalgflmgnaaaDoorRows.lean that lists a variable, with what it lists TIED to the program's text (the seventh form; the later family's looks); each row that meets fmt, with fmt's text TOLD by the authors' own Lean function (tested against real Go, not proved from fmt's source: count such statements apart). THE CARD IS WHAT COUNTS. Prove the row's statement (the work); the ties are given (YtiinalgflmgnaaaDoorTie.lean); close each card by the builder's one call (the guide's Derived/Test/ToyasCard.lean, 'card_holds'). Laid BY PROGRAM, IN A SANDBOX (cutbox-door.mjs). By AI agents, Wed Nov 11 2026. No macro, syntax, notation, axiom, sorry.
-/
import Derived.Test.YtiinalgflmgnaaaDoorRows
import GoSem.ClaimSeven
namespace Go.Proofs.YtiinalgflmgnaaaDoor
namespace Rows

/-- THE TIED CARD OF 'satchellaw12.FieldReads'. -/
def fieldReadsCard : Claim7 := { stood := { row := fieldReadsRow, standIns := [], harness := (true, "75b7702148346a8310d7af610403aef1653a35479a3a123f012d296e3e957e1a"), looks := false }, kinds := [], alts := [], laidByText := true, laidKinds := [.data, .pinned], laidTests := true, laidLooks := .later }
def FieldReadsCardSaid : Prop := Claim7.holds Tryd.pinned (.plain (OpenSpec.ofChange fieldReadsSpec)) fieldReadsCard

/-- THE TIED CARD OF 'satchellaw12.FieldRecords'. -/
def fieldRecordsCard : Claim7 := { stood := { row := fieldRecordsRow, standIns := [], harness := (true, "75b7702148346a8310d7af610403aef1653a35479a3a123f012d296e3e957e1a"), looks := false }, kinds := [], alts := [], laidByText := true, laidKinds := [.data, .pinned], laidTests := true, laidLooks := .later }
def FieldRecordsCardSaid : Prop := Claim7.holds Tryd.pinned (.plain (OpenSpec.ofChange fieldRecordsSpec)) fieldRecordsCard

/-- THE TIED CARD OF 'satchellaw12.FieldBack'. -/
def fieldBackCard : Claim7 := { stood := { row := fieldBackRow, standIns := [], harness := (true, "75b7702148346a8310d7af610403aef1653a35479a3a123f012d296e3e957e1a"), looks := false }, kinds := [], alts := [], laidByText := true, laidKinds := [.data, .pinned], laidTests := true, laidLooks := .later }
def FieldBackCardSaid : Prop := Claim7.holds Tryd.pinned (.plain (OpenSpec.ofChange fieldBackSpec)) fieldBackCard

/-- THE TIED CARD OF 'satchellaw12.FieldForm'. -/
def fieldFormCard : Claim7 := { stood := { row := fieldFormRow, standIns := [], harness := (true, "75b7702148346a8310d7af610403aef1653a35479a3a123f012d296e3e957e1a"), looks := false }, kinds := [], alts := [], laidByText := true, laidKinds := [.data, .pinned], laidTests := true, laidLooks := .later }
def FieldFormCardSaid : Prop := Claim7.holds Tryd.pinned (.plain (OpenSpec.ofChange fieldFormSpec)) fieldFormCard

/-- THE TIED CARD OF 'satchellaw12.FieldSum'. -/
def fieldSumCard : Claim7 := { stood := { row := fieldSumRow, standIns := [], harness := (true, "75b7702148346a8310d7af610403aef1653a35479a3a123f012d296e3e957e1a"), looks := false }, kinds := [], alts := [], laidByText := true, laidKinds := [.data, .pinned], laidTests := true, laidLooks := .later }
def FieldSumCardSaid : Prop := Claim7.holds Tryd.pinned (.plain (OpenSpec.ofChange fieldSumSpec)) fieldSumCard

/-- THE SECOND FORM's CARD OF 'satchellaw12.FieldReads'. -/
def fieldReadsUptoCard : Claim7 := { stood := { row := fieldReadsUptoRow, standIns := [], harness := (true, "75b7702148346a8310d7af610403aef1653a35479a3a123f012d296e3e957e1a"), looks := false }, kinds := [], alts := [], laidByText := true, laidKinds := [.data, .pinned], laidTests := true, laidLooks := .later }
def FieldReadsUptoCardSaid : Prop := Claim7.holds Tryd.pinned (.plain (OpenSpec.upto fieldReadsSpec)) fieldReadsUptoCard

/-- THE SECOND FORM's CARD OF 'satchellaw12.FieldRecords'. -/
def fieldRecordsUptoCard : Claim7 := { stood := { row := fieldRecordsUptoRow, standIns := [], harness := (true, "75b7702148346a8310d7af610403aef1653a35479a3a123f012d296e3e957e1a"), looks := false }, kinds := [], alts := [], laidByText := true, laidKinds := [.data, .pinned], laidTests := true, laidLooks := .later }
def FieldRecordsUptoCardSaid : Prop := Claim7.holds Tryd.pinned (.plain (OpenSpec.upto fieldRecordsSpec)) fieldRecordsUptoCard

/-- THE SECOND FORM's CARD OF 'satchellaw12.FieldBack'. -/
def fieldBackUptoCard : Claim7 := { stood := { row := fieldBackUptoRow, standIns := [], harness := (true, "75b7702148346a8310d7af610403aef1653a35479a3a123f012d296e3e957e1a"), looks := false }, kinds := [], alts := [], laidByText := true, laidKinds := [.data, .pinned], laidTests := true, laidLooks := .later }
def FieldBackUptoCardSaid : Prop := Claim7.holds Tryd.pinned (.plain (OpenSpec.upto fieldBackSpec)) fieldBackUptoCard

/-- THE SECOND FORM's CARD OF 'satchellaw12.FieldForm'. -/
def fieldFormUptoCard : Claim7 := { stood := { row := fieldFormUptoRow, standIns := [], harness := (true, "75b7702148346a8310d7af610403aef1653a35479a3a123f012d296e3e957e1a"), looks := false }, kinds := [], alts := [], laidByText := true, laidKinds := [.data, .pinned], laidTests := true, laidLooks := .later }
def FieldFormUptoCardSaid : Prop := Claim7.holds Tryd.pinned (.plain (OpenSpec.upto fieldFormSpec)) fieldFormUptoCard

/-- THE SECOND FORM's CARD OF 'satchellaw12.FieldSum'. -/
def fieldSumUptoCard : Claim7 := { stood := { row := fieldSumUptoRow, standIns := [], harness := (true, "75b7702148346a8310d7af610403aef1653a35479a3a123f012d296e3e957e1a"), looks := false }, kinds := [], alts := [], laidByText := true, laidKinds := [.data, .pinned], laidTests := true, laidLooks := .later }
def FieldSumUptoCardSaid : Prop := Claim7.holds Tryd.pinned (.plain (OpenSpec.upto fieldSumSpec)) fieldSumUptoCard
end Rows
end Go.Proofs.YtiinalgflmgnaaaDoor
