/-
  DERIVED. GIVEN WITH THE SEED: THE CARDS: each row of YtenkchhlaphocabDoorRows.lean that lists a variable, with what it lists TIED to the program's text (the seventh form; the later family's looks); each row that meets fmt, with fmt's text TOLD by the authors' own Lean function (tested against real Go, not proved from fmt's source: count such statements apart). THE CARD IS WHAT COUNTS. Prove the row's statement (the work); the ties are given (YtenkchhlaphocabDoorTie.lean); close each card by the builder's one call (the guide's Derived/Test/ToyasCard.lean, 'card_holds'). Laid BY PROGRAM, IN A SANDBOX (cutbox-door.mjs). By AI agents, Wed Nov 11 2026. No macro, syntax, notation, axiom, sorry.
-/
import Derived.Test.YtenkchhlaphocabDoorRows
import GoSem.ClaimSeven
namespace Go.Proofs.YtenkchhlaphocabDoor
namespace Rows

/-- THE TIED CARD OF 'satchellaw14.PaxBehind'. -/
def paxBehindCard : Claim7 := { stood := { row := paxBehindRow, standIns := [], harness := (true, "ad0ef59979f94662b286d90d4a42868f7da519ad4a07c2f58eddc05c85202a78"), looks := true }, kinds := [], alts := [], laidByText := true, laidKinds := [.data, .data, .data, .data, .sentinel, .sentinel, .pinned], laidTests := true, laidLooks := .later }
def PaxBehindCardSaid : Prop := Claim7.holds Tryd.pinned (.plain (OpenSpec.ofChange paxBehindSpec)) paxBehindCard

/-- THE SECOND FORM's CARD OF 'satchellaw14.PaxBehind'. -/
def paxBehindUptoCard : Claim7 := { stood := { row := paxBehindUptoRow, standIns := [], harness := (true, "ad0ef59979f94662b286d90d4a42868f7da519ad4a07c2f58eddc05c85202a78"), looks := true }, kinds := [], alts := [], laidByText := true, laidKinds := [.data, .data, .data, .data, .sentinel, .sentinel, .pinned], laidTests := true, laidLooks := .later }
def PaxBehindUptoCardSaid : Prop := Claim7.holds Tryd.pinned (.plain (OpenSpec.upto paxBehindSpec)) paxBehindUptoCard
end Rows
end Go.Proofs.YtenkchhlaphocabDoor
