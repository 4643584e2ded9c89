/-
  No cell of these rows narrows 'for every input' (looked for: loops, veiled, ifaces, maps, wideKeys, modest, calm, conditions, laid).
  DERIVED. THE GIVEN ROWS OF THIS SEAT. 6 by the template 'for every input the law returns true; each argument reads behind the call as it read before'; 0 by the template 'total and deterministic' (their statements: YtcogkhcfpgelhaaGreatTotals.lean).
  GIVEN WITH THE SEED: the statements are not yours to turn. If you find one false, say at which input.
  Laid BY PROGRAM, IN A SANDBOX (cutbox-rows.mjs): the forced cells as the released guide's own fill.sh prints them over the translation 094cb1cb951440ad… (all of the seat's roots in one cut). By AI agents, Wed Nov 11 2026. No macro, syntax, notation, axiom, sorry.
-/
import Derived.Test.YtcogkhcfpgelhaaGreatChecked
import GoSem.Claim
import GoSem.ClaimJoined
import GoSem.ClaimMapViews
import Derived.JoinedTies
import Derived.KernelRfl
namespace Go.Proofs.YtcogkhcfpgelhaaGreat
/- THE CELL 'sum', in the pinned program and in every row, IS THE sha256 OF THE DUMP (.gsa) THAT YtcogkhcfpgelhaaGreatProg.lean LOADS. Nothing in Lean hashes anything: it is a label: what it is worth is what the hold of that sum in a sandbox is worth. -/
noncomputable def Tryz.pinned : Pinned := { name := "ytcogkhcfpgelhaagreat", sum := "094cb1cb951440ad017c594669c020f53c819ddbb2ab9d0c2556d8f02e90ca37", checked := Tryz.checked }
namespace Rows
def none {H : Type} : Left H := { results := [], args := [] }

/-- 'satchellaw10.VfsNews': WHATEVER THE INPUT: true; the input reads as it did. -/
def vfsNewsSpec : ChangeSpec := { name := "vfsNews", fn := fun _ => fun
  | [d1, d2] => { results := [.lit (.bool true)], args := [d1, d2] }
  | _ => none }
def vfsNewsRow : OpenClaim := { program := "ytcogkhcfpgelhaagreat", sum := "094cb1cb951440ad017c594669c020f53c819ddbb2ab9d0c2556d8f02e90ca37", func := "satchel/satchellaw10.VfsNews", spec := "vfsNews", inPlace := ["internal/bytealg.IndexByteString", "internal/bytealg.IndexString", "internal/bytealg.abigen_runtime_cmpstring"], unfollowed := true, recurses := true, named := ["internal/bytealg.MaxLen"], apart := false }
def VfsNewsSaid : Prop := vfsNewsRow.holds Tryz.pinned (OpenSpec.ofChange vfsNewsSpec)

/-- ITS FALSE NEIGHBOUR: 'it returns false'. Refute it at one input. -/
def vfsNewsWrong : ChangeSpec := { name := "vfsNews", fn := fun _ => fun
  | [d1, d2] => { results := [.lit (.bool false)], args := [d1, d2] }
  | _ => none }
def VfsNewsWrongFalsely : Prop := vfsNewsRow.holds Tryz.pinned (OpenSpec.ofChange vfsNewsWrong)

/-- 'satchellaw10.VfsLoads': WHATEVER THE INPUT: true; the input reads as it did. -/
def vfsLoadsSpec : ChangeSpec := { name := "vfsLoads", fn := fun _ => fun
  | [d1, d2] => { results := [.lit (.bool true)], args := [d1, d2] }
  | _ => none }
def vfsLoadsRow : OpenClaim := { program := "ytcogkhcfpgelhaagreat", sum := "094cb1cb951440ad017c594669c020f53c819ddbb2ab9d0c2556d8f02e90ca37", func := "satchel/satchellaw10.VfsLoads", spec := "vfsLoads", inPlace := ["internal/bytealg.IndexByteString", "internal/bytealg.IndexString", "internal/bytealg.abigen_runtime_cmpstring"], unfollowed := true, recurses := true, named := ["internal/bytealg.MaxLen"], apart := false }
def VfsLoadsSaid : Prop := vfsLoadsRow.holds Tryz.pinned (OpenSpec.ofChange vfsLoadsSpec)

/-- ITS FALSE NEIGHBOUR: 'it returns false'. Refute it at one input. -/
def vfsLoadsWrong : ChangeSpec := { name := "vfsLoads", fn := fun _ => fun
  | [d1, d2] => { results := [.lit (.bool false)], args := [d1, d2] }
  | _ => none }
def VfsLoadsWrongFalsely : Prop := vfsLoadsRow.holds Tryz.pinned (OpenSpec.ofChange vfsLoadsWrong)

/-- 'satchellaw10.VfsAll': WHATEVER THE INPUT: true; the input reads as it did. -/
def vfsAllSpec : ChangeSpec := { name := "vfsAll", fn := fun _ => fun
  | [d1, d2, d3] => { results := [.lit (.bool true)], args := [d1, d2, d3] }
  | _ => none }
def vfsAllRow : OpenClaim := { program := "ytcogkhcfpgelhaagreat", sum := "094cb1cb951440ad017c594669c020f53c819ddbb2ab9d0c2556d8f02e90ca37", func := "satchel/satchellaw10.VfsAll", spec := "vfsAll", inPlace := ["internal/bytealg.IndexByteString", "internal/bytealg.IndexString", "internal/bytealg.abigen_runtime_cmpstring"], unfollowed := true, recurses := true, named := ["internal/bytealg.MaxLen"], apart := false }
def VfsAllSaid : Prop := vfsAllRow.holds Tryz.pinned (OpenSpec.ofChange vfsAllSpec)

/-- ITS FALSE NEIGHBOUR: 'it returns false'. Refute it at one input. -/
def vfsAllWrong : ChangeSpec := { name := "vfsAll", fn := fun _ => fun
  | [d1, d2, d3] => { results := [.lit (.bool false)], args := [d1, d2, d3] }
  | _ => none }
def VfsAllWrongFalsely : Prop := vfsAllRow.holds Tryz.pinned (OpenSpec.ofChange vfsAllWrong)

/-- 'satchellaw10.VfsSteps': WHATEVER THE INPUT: true; the input reads as it did. -/
def vfsStepsSpec : ChangeSpec := { name := "vfsSteps", fn := fun _ => fun
  | [d1, d2] => { results := [.lit (.bool true)], args := [d1, d2] }
  | _ => none }
def vfsStepsRow : OpenClaim := { program := "ytcogkhcfpgelhaagreat", sum := "094cb1cb951440ad017c594669c020f53c819ddbb2ab9d0c2556d8f02e90ca37", func := "satchel/satchellaw10.VfsSteps", spec := "vfsSteps", inPlace := ["internal/bytealg.IndexByteString", "internal/bytealg.IndexString", "internal/bytealg.abigen_runtime_cmpstring"], unfollowed := true, recurses := true, named := ["internal/bytealg.MaxLen"], apart := false }
def VfsStepsSaid : Prop := vfsStepsRow.holds Tryz.pinned (OpenSpec.ofChange vfsStepsSpec)

/-- ITS FALSE NEIGHBOUR: 'it returns false'. Refute it at one input. -/
def vfsStepsWrong : ChangeSpec := { name := "vfsSteps", fn := fun _ => fun
  | [d1, d2] => { results := [.lit (.bool false)], args := [d1, d2] }
  | _ => none }
def VfsStepsWrongFalsely : Prop := vfsStepsRow.holds Tryz.pinned (OpenSpec.ofChange vfsStepsWrong)

/-- 'satchellaw10.VfsFormed': WHATEVER THE INPUT: true; the input reads as it did. -/
def vfsFormedSpec : ChangeSpec := { name := "vfsFormed", fn := fun _ => fun
  | [d1, d2] => { results := [.lit (.bool true)], args := [d1, d2] }
  | _ => none }
def vfsFormedRow : OpenClaim := { program := "ytcogkhcfpgelhaagreat", sum := "094cb1cb951440ad017c594669c020f53c819ddbb2ab9d0c2556d8f02e90ca37", func := "satchel/satchellaw10.VfsFormed", spec := "vfsFormed", inPlace := ["internal/bytealg.IndexByteString", "internal/bytealg.IndexString", "internal/bytealg.abigen_runtime_cmpstring"], unfollowed := true, recurses := true, named := ["internal/bytealg.MaxLen"], apart := false }
def VfsFormedSaid : Prop := vfsFormedRow.holds Tryz.pinned (OpenSpec.ofChange vfsFormedSpec)

/-- ITS FALSE NEIGHBOUR: 'it returns false'. Refute it at one input. -/
def vfsFormedWrong : ChangeSpec := { name := "vfsFormed", fn := fun _ => fun
  | [d1, d2] => { results := [.lit (.bool false)], args := [d1, d2] }
  | _ => none }
def VfsFormedWrongFalsely : Prop := vfsFormedRow.holds Tryz.pinned (OpenSpec.ofChange vfsFormedWrong)

/-- 'satchellaw10.VfsPlace': WHATEVER THE INPUT: true; the input reads as it did. -/
def vfsPlaceSpec : ChangeSpec := { name := "vfsPlace", fn := fun _ => fun
  | [d1, d2] => { results := [.lit (.bool true)], args := [d1, d2] }
  | _ => none }
def vfsPlaceRow : OpenClaim := { program := "ytcogkhcfpgelhaagreat", sum := "094cb1cb951440ad017c594669c020f53c819ddbb2ab9d0c2556d8f02e90ca37", func := "satchel/satchellaw10.VfsPlace", spec := "vfsPlace", inPlace := ["internal/bytealg.IndexByteString", "internal/bytealg.IndexString", "internal/bytealg.abigen_runtime_cmpstring"], unfollowed := true, recurses := true, named := ["internal/bytealg.MaxLen"], apart := false }
def VfsPlaceSaid : Prop := vfsPlaceRow.holds Tryz.pinned (OpenSpec.ofChange vfsPlaceSpec)

/-- ITS FALSE NEIGHBOUR: 'it returns false'. Refute it at one input. -/
def vfsPlaceWrong : ChangeSpec := { name := "vfsPlace", fn := fun _ => fun
  | [d1, d2] => { results := [.lit (.bool false)], args := [d1, d2] }
  | _ => none }
def VfsPlaceWrongFalsely : Prop := vfsPlaceRow.holds Tryz.pinned (OpenSpec.ofChange vfsPlaceWrong)

/- THE SECOND FORM. 'bulk': how many values and letters a reading holds, each counted each time it is reached (what is shared counts as often as it is met; a slice's spare places count too). A statement '..UptoSaid' is the law's where the arguments, and the package variables that the reading takes, are together of bulk at most 1048576: NARROWER than '..Said'. Prove '..Said' where nothing that the law and all that it calls make is longer than what came in: it says more and counts as full. Else prove '..UptoSaid'. A law counts once. -/
mutual
def uptoBulk {H : Type} : DataW H → Nat
  | .lit (.string bytes) => bytes.length + 1
  | .lit _ => 1
  | .nil => 1
  | .ptr d => uptoBulk d + 1
  | .slice elems spare => uptoBulkAll elems + uptoBulkAll spare + 1
  | .agg parts => uptoBulkAll parts + 1
  | .iface _ d => uptoBulk d + 1
  | .map entries => uptoBulkEntries entries + 1
  | .held _ => 1
def uptoBulkAll {H : Type} : List (DataW H) → Nat
  | [] => 0
  | d :: r => uptoBulk d + uptoBulkAll r
def uptoBulkEntries {H : Type} : List (Lit × DataW H) → Nat
  | [] => 0
  | x :: r => uptoBulkEntry x + uptoBulkEntries r
def uptoBulkEntry {H : Type} : Lit × DataW H → Nat
  | (.string bytes, d) => bytes.length + uptoBulk d + 1
  | (_, d) => uptoBulk d + 1
 end
def uptoSmall : (H : Type) → List (DataW H) → Bool := fun _ ds => decide (uptoBulkAll ds ≤ 1048576)
def OpenSpec.upto (s : _root_.Go.ChangeSpec) : _root_.Go.OpenSpec := { _root_.Go.OpenSpec.ofChange s with cond := some uptoSmall }

/-- 'satchellaw10.VfsNews', WHERE WHAT IT READS IS OF BULK AT MOST 1048576: true; the input reads as it did. -/
def vfsNewsUptoRow : OpenClaim := { program := "ytcogkhcfpgelhaagreat", sum := "094cb1cb951440ad017c594669c020f53c819ddbb2ab9d0c2556d8f02e90ca37", func := "satchel/satchellaw10.VfsNews", spec := "vfsNews", inPlace := ["internal/bytealg.IndexByteString", "internal/bytealg.IndexString", "internal/bytealg.abigen_runtime_cmpstring"], unfollowed := true, recurses := true, named := ["internal/bytealg.MaxLen"], apart := false, narrowed := true }
def VfsNewsUptoSaid : Prop := vfsNewsUptoRow.holds Tryz.pinned (OpenSpec.upto vfsNewsSpec)

/-- 'satchellaw10.VfsLoads', WHERE WHAT IT READS IS OF BULK AT MOST 1048576: true; the input reads as it did. -/
def vfsLoadsUptoRow : OpenClaim := { program := "ytcogkhcfpgelhaagreat", sum := "094cb1cb951440ad017c594669c020f53c819ddbb2ab9d0c2556d8f02e90ca37", func := "satchel/satchellaw10.VfsLoads", spec := "vfsLoads", inPlace := ["internal/bytealg.IndexByteString", "internal/bytealg.IndexString", "internal/bytealg.abigen_runtime_cmpstring"], unfollowed := true, recurses := true, named := ["internal/bytealg.MaxLen"], apart := false, narrowed := true }
def VfsLoadsUptoSaid : Prop := vfsLoadsUptoRow.holds Tryz.pinned (OpenSpec.upto vfsLoadsSpec)

/-- 'satchellaw10.VfsAll', WHERE WHAT IT READS IS OF BULK AT MOST 1048576: true; the input reads as it did. -/
def vfsAllUptoRow : OpenClaim := { program := "ytcogkhcfpgelhaagreat", sum := "094cb1cb951440ad017c594669c020f53c819ddbb2ab9d0c2556d8f02e90ca37", func := "satchel/satchellaw10.VfsAll", spec := "vfsAll", inPlace := ["internal/bytealg.IndexByteString", "internal/bytealg.IndexString", "internal/bytealg.abigen_runtime_cmpstring"], unfollowed := true, recurses := true, named := ["internal/bytealg.MaxLen"], apart := false, narrowed := true }
def VfsAllUptoSaid : Prop := vfsAllUptoRow.holds Tryz.pinned (OpenSpec.upto vfsAllSpec)

/-- 'satchellaw10.VfsSteps', WHERE WHAT IT READS IS OF BULK AT MOST 1048576: true; the input reads as it did. -/
def vfsStepsUptoRow : OpenClaim := { program := "ytcogkhcfpgelhaagreat", sum := "094cb1cb951440ad017c594669c020f53c819ddbb2ab9d0c2556d8f02e90ca37", func := "satchel/satchellaw10.VfsSteps", spec := "vfsSteps", inPlace := ["internal/bytealg.IndexByteString", "internal/bytealg.IndexString", "internal/bytealg.abigen_runtime_cmpstring"], unfollowed := true, recurses := true, named := ["internal/bytealg.MaxLen"], apart := false, narrowed := true }
def VfsStepsUptoSaid : Prop := vfsStepsUptoRow.holds Tryz.pinned (OpenSpec.upto vfsStepsSpec)

/-- 'satchellaw10.VfsFormed', WHERE WHAT IT READS IS OF BULK AT MOST 1048576: true; the input reads as it did. -/
def vfsFormedUptoRow : OpenClaim := { program := "ytcogkhcfpgelhaagreat", sum := "094cb1cb951440ad017c594669c020f53c819ddbb2ab9d0c2556d8f02e90ca37", func := "satchel/satchellaw10.VfsFormed", spec := "vfsFormed", inPlace := ["internal/bytealg.IndexByteString", "internal/bytealg.IndexString", "internal/bytealg.abigen_runtime_cmpstring"], unfollowed := true, recurses := true, named := ["internal/bytealg.MaxLen"], apart := false, narrowed := true }
def VfsFormedUptoSaid : Prop := vfsFormedUptoRow.holds Tryz.pinned (OpenSpec.upto vfsFormedSpec)

/-- 'satchellaw10.VfsPlace', WHERE WHAT IT READS IS OF BULK AT MOST 1048576: true; the input reads as it did. -/
def vfsPlaceUptoRow : OpenClaim := { program := "ytcogkhcfpgelhaagreat", sum := "094cb1cb951440ad017c594669c020f53c819ddbb2ab9d0c2556d8f02e90ca37", func := "satchel/satchellaw10.VfsPlace", spec := "vfsPlace", inPlace := ["internal/bytealg.IndexByteString", "internal/bytealg.IndexString", "internal/bytealg.abigen_runtime_cmpstring"], unfollowed := true, recurses := true, named := ["internal/bytealg.MaxLen"], apart := false, narrowed := true }
def VfsPlaceUptoSaid : Prop := vfsPlaceUptoRow.holds Tryz.pinned (OpenSpec.upto vfsPlaceSpec)

end Rows
end Go.Proofs.YtcogkhcfpgelhaaGreat
