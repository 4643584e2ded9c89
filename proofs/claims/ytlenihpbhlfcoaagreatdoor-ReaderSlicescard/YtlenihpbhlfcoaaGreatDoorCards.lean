/-
  DERIVED. GIVEN WITH THE SEED: THE CARDS: each row of YtlenihpbhlfcoaaGreatDoorRows.lean that lists a variable, with what it lists TIED to the program's text (the seventh form; the later family's looks); each row that meets fmt, with fmt's text TOLD by the authors' own Lean function (tested against real Go, not proved from fmt's source: count such statements apart). THE CARD IS WHAT COUNTS. Prove the row's statement (the work); the ties are given (YtlenihpbhlfcoaaGreatDoorTie.lean); close each card by the builder's one call (the guide's Derived/Test/ToyasCard.lean, 'card_holds'). Laid BY PROGRAM, IN A SANDBOX (cutbox-door.mjs). By AI agents, Wed Nov 11 2026. No macro, syntax, notation, axiom, sorry.
-/
import Derived.Test.YtlenihpbhlfcoaaGreatDoorRows
import GoSem.ClaimSeven
namespace Go.Proofs.YtlenihpbhlfcoaaGreatDoor
namespace Rows

/-- THE TIED CARD OF 'satchellaw16.ReaderPlaces'. -/
def readerPlacesCard : Claim7 := { stood := { row := readerPlacesRow, standIns := [], harness := (true, "84be51530d93d44d5c191a9fd5b66e4ee688ed2b38dd8d5edf264538137c62bf"), looks := true }, kinds := [], alts := [], laidByText := true, laidKinds := [.data, .data, .data, .data, .sentinel, .sentinel, .pinned], laidTests := true, laidLooks := .later }
def ReaderPlacesCardSaid : Prop := Claim7.holds Tryz.pinned (.plain (OpenSpec.ofChange readerPlacesSpec)) readerPlacesCard

/-- THE TIED CARD OF 'satchellaw16.ReaderBegins'. -/
def readerBeginsCard : Claim7 := { stood := { row := readerBeginsRow, standIns := [], harness := (true, "84be51530d93d44d5c191a9fd5b66e4ee688ed2b38dd8d5edf264538137c62bf"), looks := true }, kinds := [], alts := [], laidByText := true, laidKinds := [.data, .data, .data, .data, .sentinel, .sentinel, .pinned], laidTests := true, laidLooks := .later }
def ReaderBeginsCardSaid : Prop := Claim7.holds Tryz.pinned (.plain (OpenSpec.ofChange readerBeginsSpec)) readerBeginsCard

/-- THE TIED CARD OF 'satchellaw16.ReaderTwo'. -/
def readerTwoCard : Claim7 := { stood := { row := readerTwoRow, standIns := [], harness := (true, "84be51530d93d44d5c191a9fd5b66e4ee688ed2b38dd8d5edf264538137c62bf"), looks := true }, kinds := [], alts := [], laidByText := true, laidKinds := [.data, .data, .data, .data, .sentinel, .sentinel, .pinned], laidTests := true, laidLooks := .later }
def ReaderTwoCardSaid : Prop := Claim7.holds Tryz.pinned (.plain (OpenSpec.ofChange readerTwoSpec)) readerTwoCard

/-- THE TIED CARD OF 'satchellaw16.ReaderTotal'. -/
def readerTotalCard : Claim7 := { stood := { row := readerTotalRow, standIns := [], harness := (true, "84be51530d93d44d5c191a9fd5b66e4ee688ed2b38dd8d5edf264538137c62bf"), looks := true }, kinds := [], alts := [], laidByText := true, laidKinds := [.data, .data, .data, .data, .sentinel, .sentinel, .pinned], laidTests := true, laidLooks := .later }
def ReaderTotalCardSaid : Prop := Claim7.holds Tryz.pinned (.plain (OpenSpec.ofChange readerTotalSpec)) readerTotalCard

/-- THE TIED CARD OF 'satchellaw16.ReaderSlices'. -/
def readerSlicesCard : Claim7 := { stood := { row := readerSlicesRow, standIns := [], harness := (true, "84be51530d93d44d5c191a9fd5b66e4ee688ed2b38dd8d5edf264538137c62bf"), looks := true }, kinds := [], alts := [], laidByText := true, laidKinds := [.data, .data, .data, .data, .sentinel, .sentinel, .pinned], laidTests := true, laidLooks := .later }
def ReaderSlicesCardSaid : Prop := Claim7.holds Tryz.pinned (.plain (OpenSpec.ofChange readerSlicesSpec)) readerSlicesCard

/-- THE SECOND FORM's CARD OF 'satchellaw16.ReaderPlaces'. -/
def readerPlacesUptoCard : Claim7 := { stood := { row := readerPlacesUptoRow, standIns := [], harness := (true, "84be51530d93d44d5c191a9fd5b66e4ee688ed2b38dd8d5edf264538137c62bf"), looks := true }, kinds := [], alts := [], laidByText := true, laidKinds := [.data, .data, .data, .data, .sentinel, .sentinel, .pinned], laidTests := true, laidLooks := .later }
def ReaderPlacesUptoCardSaid : Prop := Claim7.holds Tryz.pinned (.plain (OpenSpec.upto readerPlacesSpec)) readerPlacesUptoCard

/-- THE SECOND FORM's CARD OF 'satchellaw16.ReaderBegins'. -/
def readerBeginsUptoCard : Claim7 := { stood := { row := readerBeginsUptoRow, standIns := [], harness := (true, "84be51530d93d44d5c191a9fd5b66e4ee688ed2b38dd8d5edf264538137c62bf"), looks := true }, kinds := [], alts := [], laidByText := true, laidKinds := [.data, .data, .data, .data, .sentinel, .sentinel, .pinned], laidTests := true, laidLooks := .later }
def ReaderBeginsUptoCardSaid : Prop := Claim7.holds Tryz.pinned (.plain (OpenSpec.upto readerBeginsSpec)) readerBeginsUptoCard

/-- THE SECOND FORM's CARD OF 'satchellaw16.ReaderTwo'. -/
def readerTwoUptoCard : Claim7 := { stood := { row := readerTwoUptoRow, standIns := [], harness := (true, "84be51530d93d44d5c191a9fd5b66e4ee688ed2b38dd8d5edf264538137c62bf"), looks := true }, kinds := [], alts := [], laidByText := true, laidKinds := [.data, .data, .data, .data, .sentinel, .sentinel, .pinned], laidTests := true, laidLooks := .later }
def ReaderTwoUptoCardSaid : Prop := Claim7.holds Tryz.pinned (.plain (OpenSpec.upto readerTwoSpec)) readerTwoUptoCard

/-- THE SECOND FORM's CARD OF 'satchellaw16.ReaderTotal'. -/
def readerTotalUptoCard : Claim7 := { stood := { row := readerTotalUptoRow, standIns := [], harness := (true, "84be51530d93d44d5c191a9fd5b66e4ee688ed2b38dd8d5edf264538137c62bf"), looks := true }, kinds := [], alts := [], laidByText := true, laidKinds := [.data, .data, .data, .data, .sentinel, .sentinel, .pinned], laidTests := true, laidLooks := .later }
def ReaderTotalUptoCardSaid : Prop := Claim7.holds Tryz.pinned (.plain (OpenSpec.upto readerTotalSpec)) readerTotalUptoCard

/-- THE SECOND FORM's CARD OF 'satchellaw16.ReaderSlices'. -/
def readerSlicesUptoCard : Claim7 := { stood := { row := readerSlicesUptoRow, standIns := [], harness := (true, "84be51530d93d44d5c191a9fd5b66e4ee688ed2b38dd8d5edf264538137c62bf"), looks := true }, kinds := [], alts := [], laidByText := true, laidKinds := [.data, .data, .data, .data, .sentinel, .sentinel, .pinned], laidTests := true, laidLooks := .later }
def ReaderSlicesUptoCardSaid : Prop := Claim7.holds Tryz.pinned (.plain (OpenSpec.upto readerSlicesSpec)) readerSlicesUptoCard
end Rows
end Go.Proofs.YtlenihpbhlfcoaaGreatDoor
