/-
  DERIVED. GIVEN WITH THE SEED: THE CARDS: each row of YtpjnbhflnbhnoaaGreatDoorRows.lean that lists a variable, with what it lists TIED to the program's text (the seventh form; the later family's looks); each row that meets fmt, with fmt's text TOLD by the authors' own Lean function (tested against real Go, not proved from fmt's source: count such statements apart). THE CARD IS WHAT COUNTS. Prove the row's statement (the work); the ties are given (YtpjnbhflnbhnoaaGreatDoorTie.lean); close each card by the builder's one call (the guide's Derived/Test/ToyasCard.lean, 'card_holds'). Laid BY PROGRAM, IN A SANDBOX (cutbox-door.mjs). By AI agents, Wed Nov 11 2026. No macro, syntax, notation, axiom, sorry.
-/
import Derived.Test.YtpjnbhflnbhnoaaGreatDoorRows
import GoSem.ClaimSeven
namespace Go.Proofs.YtpjnbhflnbhnoaaGreatDoor
namespace Rows

/-- THE TIED CARD OF 'satchellaw08.GzipEncodes'. -/
def gzipEncodesCard : Claim7 := { stood := { row := gzipEncodesRow, standIns := [], harness := (true, "6c53250d8a3a042c73243cdad8284dee840b5e07440a4c4734d7b9077db68cec"), looks := true }, kinds := [], alts := [], laidByText := true, laidKinds := [.data, .data], laidTests := true, laidLooks := .later }
def GzipEncodesCardSaid : Prop := Claim7.holds Tryz.pinned (.plain (OpenSpec.ofChange gzipEncodesSpec)) gzipEncodesCard

/-- THE TIED CARD OF 'satchellaw08.GzipDecodes'. -/
def gzipDecodesCard : Claim7 := { stood := { row := gzipDecodesRow, standIns := [], harness := (true, "6c53250d8a3a042c73243cdad8284dee840b5e07440a4c4734d7b9077db68cec"), looks := true }, kinds := [], alts := [], laidByText := true, laidKinds := [.data, .data, .data, .pinned], laidTests := true, laidLooks := .later }
def GzipDecodesCardSaid : Prop := Claim7.holds Tryz.pinned (.plain (OpenSpec.ofChange gzipDecodesSpec)) gzipDecodesCard

/-- THE TIED CARD OF 'satchellaw08.GzipBack'. -/
def gzipBackCard : Claim7 := { stood := { row := gzipBackRow, standIns := [], harness := (true, "6c53250d8a3a042c73243cdad8284dee840b5e07440a4c4734d7b9077db68cec"), looks := true }, kinds := [], alts := [], laidByText := true, laidKinds := [.data, .data, .data, .data, .pinned], laidTests := true, laidLooks := .later }
def GzipBackCardSaid : Prop := Claim7.holds Tryz.pinned (.plain (OpenSpec.ofChange gzipBackSpec)) gzipBackCard

/-- THE TIED CARD OF 'satchellaw08.GzipBurst'. -/
def gzipBurstCard : Claim7 := { stood := { row := gzipBurstRow, standIns := [], harness := (true, "6c53250d8a3a042c73243cdad8284dee840b5e07440a4c4734d7b9077db68cec"), looks := true }, kinds := [], alts := [], laidByText := true, laidKinds := [.data, .data, .data, .data, .pinned], laidTests := true, laidLooks := .later }
def GzipBurstCardSaid : Prop := Claim7.holds Tryz.pinned (.plain (OpenSpec.ofChange gzipBurstSpec)) gzipBurstCard

/-- THE TIED CARD OF 'satchellaw08.GzipBounded'. -/
def gzipBoundedCard : Claim7 := { stood := { row := gzipBoundedRow, standIns := [], harness := (true, "6c53250d8a3a042c73243cdad8284dee840b5e07440a4c4734d7b9077db68cec"), looks := true }, kinds := [], alts := [], laidByText := true, laidKinds := [.data, .data, .data, .data, .pinned], laidTests := true, laidLooks := .later }
def GzipBoundedCardSaid : Prop := Claim7.holds Tryz.pinned (.plain (OpenSpec.ofChange gzipBoundedSpec)) gzipBoundedCard

/-- THE TIED CARD OF 'satchellaw08.GzipOnes'. -/
def gzipOnesCard : Claim7 := { stood := { row := gzipOnesRow, standIns := [], harness := (true, "6c53250d8a3a042c73243cdad8284dee840b5e07440a4c4734d7b9077db68cec"), looks := true }, kinds := [], alts := [], laidByText := true, laidKinds := [.data, .data, .data, .data, .pinned], laidTests := true, laidLooks := .later }
def GzipOnesCardSaid : Prop := Claim7.holds Tryz.pinned (.plain (OpenSpec.ofChange gzipOnesSpec)) gzipOnesCard

/-- THE SECOND FORM's CARD OF 'satchellaw08.GzipEncodes'. -/
def gzipEncodesUptoCard : Claim7 := { stood := { row := gzipEncodesUptoRow, standIns := [], harness := (true, "6c53250d8a3a042c73243cdad8284dee840b5e07440a4c4734d7b9077db68cec"), looks := true }, kinds := [], alts := [], laidByText := true, laidKinds := [.data, .data], laidTests := true, laidLooks := .later }
def GzipEncodesUptoCardSaid : Prop := Claim7.holds Tryz.pinned (.plain (OpenSpec.upto gzipEncodesSpec)) gzipEncodesUptoCard

/-- THE SECOND FORM's CARD OF 'satchellaw08.GzipDecodes'. -/
def gzipDecodesUptoCard : Claim7 := { stood := { row := gzipDecodesUptoRow, standIns := [], harness := (true, "6c53250d8a3a042c73243cdad8284dee840b5e07440a4c4734d7b9077db68cec"), looks := true }, kinds := [], alts := [], laidByText := true, laidKinds := [.data, .data, .data, .pinned], laidTests := true, laidLooks := .later }
def GzipDecodesUptoCardSaid : Prop := Claim7.holds Tryz.pinned (.plain (OpenSpec.upto gzipDecodesSpec)) gzipDecodesUptoCard

/-- THE SECOND FORM's CARD OF 'satchellaw08.GzipBack'. -/
def gzipBackUptoCard : Claim7 := { stood := { row := gzipBackUptoRow, standIns := [], harness := (true, "6c53250d8a3a042c73243cdad8284dee840b5e07440a4c4734d7b9077db68cec"), looks := true }, kinds := [], alts := [], laidByText := true, laidKinds := [.data, .data, .data, .data, .pinned], laidTests := true, laidLooks := .later }
def GzipBackUptoCardSaid : Prop := Claim7.holds Tryz.pinned (.plain (OpenSpec.upto gzipBackSpec)) gzipBackUptoCard

/-- THE SECOND FORM's CARD OF 'satchellaw08.GzipBurst'. -/
def gzipBurstUptoCard : Claim7 := { stood := { row := gzipBurstUptoRow, standIns := [], harness := (true, "6c53250d8a3a042c73243cdad8284dee840b5e07440a4c4734d7b9077db68cec"), looks := true }, kinds := [], alts := [], laidByText := true, laidKinds := [.data, .data, .data, .data, .pinned], laidTests := true, laidLooks := .later }
def GzipBurstUptoCardSaid : Prop := Claim7.holds Tryz.pinned (.plain (OpenSpec.upto gzipBurstSpec)) gzipBurstUptoCard

/-- THE SECOND FORM's CARD OF 'satchellaw08.GzipBounded'. -/
def gzipBoundedUptoCard : Claim7 := { stood := { row := gzipBoundedUptoRow, standIns := [], harness := (true, "6c53250d8a3a042c73243cdad8284dee840b5e07440a4c4734d7b9077db68cec"), looks := true }, kinds := [], alts := [], laidByText := true, laidKinds := [.data, .data, .data, .data, .pinned], laidTests := true, laidLooks := .later }
def GzipBoundedUptoCardSaid : Prop := Claim7.holds Tryz.pinned (.plain (OpenSpec.upto gzipBoundedSpec)) gzipBoundedUptoCard

/-- THE SECOND FORM's CARD OF 'satchellaw08.GzipOnes'. -/
def gzipOnesUptoCard : Claim7 := { stood := { row := gzipOnesUptoRow, standIns := [], harness := (true, "6c53250d8a3a042c73243cdad8284dee840b5e07440a4c4734d7b9077db68cec"), looks := true }, kinds := [], alts := [], laidByText := true, laidKinds := [.data, .data, .data, .data, .pinned], laidTests := true, laidLooks := .later }
def GzipOnesUptoCardSaid : Prop := Claim7.holds Tryz.pinned (.plain (OpenSpec.upto gzipOnesSpec)) gzipOnesUptoCard
end Rows
end Go.Proofs.YtpjnbhflnbhnoaaGreatDoor
