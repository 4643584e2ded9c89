/-
  DERIVED. GIVEN WITH THE SEED: THE CARDS: each row of YtenkchhlaphocaaDoorRows.lean that lists a variable, with what it lists TIED to the program's text (the seventh form; the later family's looks); each row that meets fmt, with fmt's text TOLD by the authors' own Lean function (tested against real Go, not proved from fmt's source: count such statements apart). THE CARD IS WHAT COUNTS. Prove the row's statement (the work); the ties are given (YtenkchhlaphocaaDoorTie.lean); close each card by the builder's one call (the guide's Derived/Test/ToyasCard.lean, 'card_holds'). Laid BY PROGRAM, IN A SANDBOX (cutbox-door.mjs). By AI agents, Wed Nov 11 2026. No macro, syntax, notation, axiom, sorry.
-/
import Derived.Test.YtenkchhlaphocaaDoorRows
import GoSem.ClaimSeven
namespace Go.Proofs.YtenkchhlaphocaaDoor
namespace Rows

/-- THE TIED CARD OF 'satchellaw14.PaxPairs'. -/
def paxPairsCard : Claim7 := { stood := { row := paxPairsRow, standIns := [], harness := (true, "ed7bd6221c0493b3e65e9dd3ffc6eae3b1788a20b83c19aa612c642d8c4132dc"), looks := true }, kinds := [], alts := [], laidByText := true, laidKinds := [.data, .data, .data], laidTests := true, laidLooks := .later }
def PaxPairsCardSaid : Prop := Claim7.holds Tryd.pinned (.plain (OpenSpec.ofChange paxPairsSpec)) paxPairsCard

/-- THE TIED CARD OF 'satchellaw14.PaxNumbers'. -/
def paxNumbersCard : Claim7 := { stood := { row := paxNumbersRow, standIns := [], harness := (true, "ed7bd6221c0493b3e65e9dd3ffc6eae3b1788a20b83c19aa612c642d8c4132dc"), looks := true }, kinds := [], alts := [], laidByText := true, laidKinds := [.data, .data, .data, .data, .sentinel, .sentinel, .pinned], laidTests := true, laidLooks := .later }
def PaxNumbersCardSaid : Prop := Claim7.holds Tryd.pinned (.plain (OpenSpec.ofChange paxNumbersSpec)) paxNumbersCard

/-- THE TIED CARD OF 'satchellaw14.PaxBack'. -/
def paxBackCard : Claim7 := { stood := { row := paxBackRow, standIns := [], harness := (true, "ed7bd6221c0493b3e65e9dd3ffc6eae3b1788a20b83c19aa612c642d8c4132dc"), looks := true }, kinds := [], alts := [], laidByText := true, laidKinds := [.data, .data, .data, .data, .sentinel, .sentinel, .pinned], laidTests := true, laidLooks := .later }
def PaxBackCardSaid : Prop := Claim7.holds Tryd.pinned (.plain (OpenSpec.ofChange paxBackSpec)) paxBackCard

/-- THE TIED CARD OF 'satchellaw14.PaxTimes'. -/
def paxTimesCard : Claim7 := { stood := { row := paxTimesRow, standIns := [], harness := (true, "ed7bd6221c0493b3e65e9dd3ffc6eae3b1788a20b83c19aa612c642d8c4132dc"), looks := true }, kinds := [], alts := [], laidByText := true, laidKinds := [.data, .data, .data, .data, .sentinel, .sentinel, .pinned], laidTests := true, laidLooks := .later }
def PaxTimesCardSaid : Prop := Claim7.holds Tryd.pinned (.plain (OpenSpec.ofChange paxTimesSpec)) paxTimesCard

/-- THE SECOND FORM's CARD OF 'satchellaw14.PaxPairs'. -/
def paxPairsUptoCard : Claim7 := { stood := { row := paxPairsUptoRow, standIns := [], harness := (true, "ed7bd6221c0493b3e65e9dd3ffc6eae3b1788a20b83c19aa612c642d8c4132dc"), looks := true }, kinds := [], alts := [], laidByText := true, laidKinds := [.data, .data, .data], laidTests := true, laidLooks := .later }
def PaxPairsUptoCardSaid : Prop := Claim7.holds Tryd.pinned (.plain (OpenSpec.upto paxPairsSpec)) paxPairsUptoCard

/-- THE SECOND FORM's CARD OF 'satchellaw14.PaxNumbers'. -/
def paxNumbersUptoCard : Claim7 := { stood := { row := paxNumbersUptoRow, standIns := [], harness := (true, "ed7bd6221c0493b3e65e9dd3ffc6eae3b1788a20b83c19aa612c642d8c4132dc"), looks := true }, kinds := [], alts := [], laidByText := true, laidKinds := [.data, .data, .data, .data, .sentinel, .sentinel, .pinned], laidTests := true, laidLooks := .later }
def PaxNumbersUptoCardSaid : Prop := Claim7.holds Tryd.pinned (.plain (OpenSpec.upto paxNumbersSpec)) paxNumbersUptoCard

/-- THE SECOND FORM's CARD OF 'satchellaw14.PaxBack'. -/
def paxBackUptoCard : Claim7 := { stood := { row := paxBackUptoRow, standIns := [], harness := (true, "ed7bd6221c0493b3e65e9dd3ffc6eae3b1788a20b83c19aa612c642d8c4132dc"), looks := true }, kinds := [], alts := [], laidByText := true, laidKinds := [.data, .data, .data, .data, .sentinel, .sentinel, .pinned], laidTests := true, laidLooks := .later }
def PaxBackUptoCardSaid : Prop := Claim7.holds Tryd.pinned (.plain (OpenSpec.upto paxBackSpec)) paxBackUptoCard

/-- THE SECOND FORM's CARD OF 'satchellaw14.PaxTimes'. -/
def paxTimesUptoCard : Claim7 := { stood := { row := paxTimesUptoRow, standIns := [], harness := (true, "ed7bd6221c0493b3e65e9dd3ffc6eae3b1788a20b83c19aa612c642d8c4132dc"), looks := true }, kinds := [], alts := [], laidByText := true, laidKinds := [.data, .data, .data, .data, .sentinel, .sentinel, .pinned], laidTests := true, laidLooks := .later }
def PaxTimesUptoCardSaid : Prop := Claim7.holds Tryd.pinned (.plain (OpenSpec.upto paxTimesSpec)) paxTimesUptoCard
end Rows
end Go.Proofs.YtenkchhlaphocaaDoor
