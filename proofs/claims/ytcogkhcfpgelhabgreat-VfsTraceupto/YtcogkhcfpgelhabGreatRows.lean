/-
  No cell of these rows narrows 'for every input' (looked for: loops, veiled, ifaces, maps, wideKeys, modest, calm, conditions, laid).
  DERIVED. THE GIVEN ROWS OF THIS SEAT. 5 by the template 'for every input the law returns true; each argument reads behind the call as it read before'; 0 by the template 'total and deterministic' (their statements: YtcogkhcfpgelhabGreatTotals.lean).
  GIVEN WITH THE SEED: the statements are not yours to turn. If you find one false, say at which input.
  Laid BY PROGRAM, IN A SANDBOX (cutbox-rows.mjs): the forced cells as the released guide's own fill.sh prints them over the translation 9cc38bfcca3e4c3b… (all of the seat's roots in one cut). By AI agents, Wed Nov 11 2026. No macro, syntax, notation, axiom, sorry.
-/
import Derived.Test.YtcogkhcfpgelhabGreatChecked
import GoSem.Claim
import GoSem.ClaimJoined
import GoSem.ClaimMapViews
import Derived.JoinedTies
import Derived.KernelRfl
namespace Go.Proofs.YtcogkhcfpgelhabGreat
/- THE CELL 'sum', in the pinned program and in every row, IS THE sha256 OF THE DUMP (.gsa) THAT YtcogkhcfpgelhabGreatProg.lean LOADS. Nothing in Lean hashes anything: it is a label: what it is worth is what the hold of that sum in a sandbox is worth. -/
noncomputable def Tryz.pinned : Pinned := { name := "ytcogkhcfpgelhabgreat", sum := "9cc38bfcca3e4c3b1edc71926de861e506fa23ac47a7cc4c3976b7d56f31d924", checked := Tryz.checked }
namespace Rows
def none {H : Type} : Left H := { results := [], args := [] }

/-- 'satchellaw10.VfsBlind': WHATEVER THE INPUT: true; the input reads as it did. -/
def vfsBlindSpec : ChangeSpec := { name := "vfsBlind", fn := fun _ => fun
  | [d1, d2, d3] => { results := [.lit (.bool true)], args := [d1, d2, d3] }
  | _ => none }
def vfsBlindRow : OpenClaim := { program := "ytcogkhcfpgelhabgreat", sum := "9cc38bfcca3e4c3b1edc71926de861e506fa23ac47a7cc4c3976b7d56f31d924", func := "satchel/satchellaw10.VfsBlind", spec := "vfsBlind", inPlace := ["internal/bytealg.IndexByteString", "internal/bytealg.IndexString", "internal/bytealg.abigen_runtime_cmpstring"], unfollowed := true, recurses := true, named := ["internal/bytealg.MaxLen"], apart := false }
def VfsBlindSaid : Prop := vfsBlindRow.holds Tryz.pinned (OpenSpec.ofChange vfsBlindSpec)

/-- ITS FALSE NEIGHBOUR: 'it returns false'. Refute it at one input. -/
def vfsBlindWrong : ChangeSpec := { name := "vfsBlind", fn := fun _ => fun
  | [d1, d2, d3] => { results := [.lit (.bool false)], args := [d1, d2, d3] }
  | _ => none }
def VfsBlindWrongFalsely : Prop := vfsBlindRow.holds Tryz.pinned (OpenSpec.ofChange vfsBlindWrong)

/-- 'satchellaw10.VfsTrace': WHATEVER THE INPUT: true; the input reads as it did. -/
def vfsTraceSpec : ChangeSpec := { name := "vfsTrace", fn := fun _ => fun
  | [d1, d2] => { results := [.lit (.bool true)], args := [d1, d2] }
  | _ => none }
def vfsTraceRow : OpenClaim := { program := "ytcogkhcfpgelhabgreat", sum := "9cc38bfcca3e4c3b1edc71926de861e506fa23ac47a7cc4c3976b7d56f31d924", func := "satchel/satchellaw10.VfsTrace", spec := "vfsTrace", inPlace := ["internal/bytealg.IndexByteString", "internal/bytealg.IndexString", "internal/bytealg.abigen_runtime_cmpstring"], unfollowed := true, recurses := true, named := ["internal/bytealg.MaxLen"], apart := false }
def VfsTraceSaid : Prop := vfsTraceRow.holds Tryz.pinned (OpenSpec.ofChange vfsTraceSpec)

/-- ITS FALSE NEIGHBOUR: 'it returns false'. Refute it at one input. -/
def vfsTraceWrong : ChangeSpec := { name := "vfsTrace", fn := fun _ => fun
  | [d1, d2] => { results := [.lit (.bool false)], args := [d1, d2] }
  | _ => none }
def VfsTraceWrongFalsely : Prop := vfsTraceRow.holds Tryz.pinned (OpenSpec.ofChange vfsTraceWrong)

/-- 'satchellaw10.VfsOn': WHATEVER THE INPUT: true; the input reads as it did. -/
def vfsOnSpec : ChangeSpec := { name := "vfsOn", fn := fun _ => fun
  | [d1, d2, d3] => { results := [.lit (.bool true)], args := [d1, d2, d3] }
  | _ => none }
def vfsOnRow : OpenClaim := { program := "ytcogkhcfpgelhabgreat", sum := "9cc38bfcca3e4c3b1edc71926de861e506fa23ac47a7cc4c3976b7d56f31d924", func := "satchel/satchellaw10.VfsOn", spec := "vfsOn", inPlace := ["internal/bytealg.IndexByteString", "internal/bytealg.IndexString", "internal/bytealg.abigen_runtime_cmpstring"], unfollowed := true, recurses := true, named := ["internal/bytealg.MaxLen"], apart := false }
def VfsOnSaid : Prop := vfsOnRow.holds Tryz.pinned (OpenSpec.ofChange vfsOnSpec)

/-- ITS FALSE NEIGHBOUR: 'it returns false'. Refute it at one input. -/
def vfsOnWrong : ChangeSpec := { name := "vfsOn", fn := fun _ => fun
  | [d1, d2, d3] => { results := [.lit (.bool false)], args := [d1, d2, d3] }
  | _ => none }
def VfsOnWrongFalsely : Prop := vfsOnRow.holds Tryz.pinned (OpenSpec.ofChange vfsOnWrong)

/-- 'satchellaw10.VfsAlike': WHATEVER THE INPUT: true; the input reads as it did. -/
def vfsAlikeSpec : ChangeSpec := { name := "vfsAlike", fn := fun _ => fun
  | [d1, d2] => { results := [.lit (.bool true)], args := [d1, d2] }
  | _ => none }
def vfsAlikeRow : OpenClaim := { program := "ytcogkhcfpgelhabgreat", sum := "9cc38bfcca3e4c3b1edc71926de861e506fa23ac47a7cc4c3976b7d56f31d924", func := "satchel/satchellaw10.VfsAlike", spec := "vfsAlike", inPlace := ["internal/bytealg.IndexByteString", "internal/bytealg.IndexString", "internal/bytealg.abigen_runtime_cmpstring"], unfollowed := true, recurses := true, named := ["internal/bytealg.MaxLen"], apart := false }
def VfsAlikeSaid : Prop := vfsAlikeRow.holds Tryz.pinned (OpenSpec.ofChange vfsAlikeSpec)

/-- ITS FALSE NEIGHBOUR: 'it returns false'. Refute it at one input. -/
def vfsAlikeWrong : ChangeSpec := { name := "vfsAlike", fn := fun _ => fun
  | [d1, d2] => { results := [.lit (.bool false)], args := [d1, d2] }
  | _ => none }
def VfsAlikeWrongFalsely : Prop := vfsAlikeRow.holds Tryz.pinned (OpenSpec.ofChange vfsAlikeWrong)

/-- 'satchellaw10.VfsLinks': WHATEVER THE INPUT: true; the input reads as it did. -/
def vfsLinksSpec : ChangeSpec := { name := "vfsLinks", fn := fun _ => fun
  | [d1, d2] => { results := [.lit (.bool true)], args := [d1, d2] }
  | _ => none }
def vfsLinksRow : OpenClaim := { program := "ytcogkhcfpgelhabgreat", sum := "9cc38bfcca3e4c3b1edc71926de861e506fa23ac47a7cc4c3976b7d56f31d924", func := "satchel/satchellaw10.VfsLinks", spec := "vfsLinks", inPlace := ["internal/bytealg.IndexByteString", "internal/bytealg.IndexString", "internal/bytealg.abigen_runtime_cmpstring"], unfollowed := true, recurses := true, named := ["internal/bytealg.MaxLen"], apart := false }
def VfsLinksSaid : Prop := vfsLinksRow.holds Tryz.pinned (OpenSpec.ofChange vfsLinksSpec)

/-- ITS FALSE NEIGHBOUR: 'it returns false'. Refute it at one input. -/
def vfsLinksWrong : ChangeSpec := { name := "vfsLinks", fn := fun _ => fun
  | [d1, d2] => { results := [.lit (.bool false)], args := [d1, d2] }
  | _ => none }
def VfsLinksWrongFalsely : Prop := vfsLinksRow.holds Tryz.pinned (OpenSpec.ofChange vfsLinksWrong)

/- THE SECOND FORM. 'bulk': how many values and letters a reading holds, each counted each time it is reached (what is shared counts as often as it is met; a slice's spare places count too). A statement '..UptoSaid' is the law's where the arguments, and the package variables that the reading takes, are together of bulk at most 1048576: NARROWER than '..Said'. Prove '..Said' where nothing that the law and all that it calls make is longer than what came in: it says more and counts as full. Else prove '..UptoSaid'. A law counts once. -/
mutual
def uptoBulk {H : Type} : DataW H → Nat
  | .lit (.string bytes) => bytes.length + 1
  | .lit _ => 1
  | .nil => 1
  | .ptr d => uptoBulk d + 1
  | .slice elems spare => uptoBulkAll elems + uptoBulkAll spare + 1
  | .agg parts => uptoBulkAll parts + 1
  | .iface _ d => uptoBulk d + 1
  | .map entries => uptoBulkEntries entries + 1
  | .held _ => 1
def uptoBulkAll {H : Type} : List (DataW H) → Nat
  | [] => 0
  | d :: r => uptoBulk d + uptoBulkAll r
def uptoBulkEntries {H : Type} : List (Lit × DataW H) → Nat
  | [] => 0
  | x :: r => uptoBulkEntry x + uptoBulkEntries r
def uptoBulkEntry {H : Type} : Lit × DataW H → Nat
  | (.string bytes, d) => bytes.length + uptoBulk d + 1
  | (_, d) => uptoBulk d + 1
 end
def uptoSmall : (H : Type) → List (DataW H) → Bool := fun _ ds => decide (uptoBulkAll ds ≤ 1048576)
def OpenSpec.upto (s : _root_.Go.ChangeSpec) : _root_.Go.OpenSpec := { _root_.Go.OpenSpec.ofChange s with cond := some uptoSmall }

/-- 'satchellaw10.VfsBlind', WHERE WHAT IT READS IS OF BULK AT MOST 1048576: true; the input reads as it did. -/
def vfsBlindUptoRow : OpenClaim := { program := "ytcogkhcfpgelhabgreat", sum := "9cc38bfcca3e4c3b1edc71926de861e506fa23ac47a7cc4c3976b7d56f31d924", func := "satchel/satchellaw10.VfsBlind", spec := "vfsBlind", inPlace := ["internal/bytealg.IndexByteString", "internal/bytealg.IndexString", "internal/bytealg.abigen_runtime_cmpstring"], unfollowed := true, recurses := true, named := ["internal/bytealg.MaxLen"], apart := false, narrowed := true }
def VfsBlindUptoSaid : Prop := vfsBlindUptoRow.holds Tryz.pinned (OpenSpec.upto vfsBlindSpec)

/-- 'satchellaw10.VfsTrace', WHERE WHAT IT READS IS OF BULK AT MOST 1048576: true; the input reads as it did. -/
def vfsTraceUptoRow : OpenClaim := { program := "ytcogkhcfpgelhabgreat", sum := "9cc38bfcca3e4c3b1edc71926de861e506fa23ac47a7cc4c3976b7d56f31d924", func := "satchel/satchellaw10.VfsTrace", spec := "vfsTrace", inPlace := ["internal/bytealg.IndexByteString", "internal/bytealg.IndexString", "internal/bytealg.abigen_runtime_cmpstring"], unfollowed := true, recurses := true, named := ["internal/bytealg.MaxLen"], apart := false, narrowed := true }
def VfsTraceUptoSaid : Prop := vfsTraceUptoRow.holds Tryz.pinned (OpenSpec.upto vfsTraceSpec)

/-- 'satchellaw10.VfsOn', WHERE WHAT IT READS IS OF BULK AT MOST 1048576: true; the input reads as it did. -/
def vfsOnUptoRow : OpenClaim := { program := "ytcogkhcfpgelhabgreat", sum := "9cc38bfcca3e4c3b1edc71926de861e506fa23ac47a7cc4c3976b7d56f31d924", func := "satchel/satchellaw10.VfsOn", spec := "vfsOn", inPlace := ["internal/bytealg.IndexByteString", "internal/bytealg.IndexString", "internal/bytealg.abigen_runtime_cmpstring"], unfollowed := true, recurses := true, named := ["internal/bytealg.MaxLen"], apart := false, narrowed := true }
def VfsOnUptoSaid : Prop := vfsOnUptoRow.holds Tryz.pinned (OpenSpec.upto vfsOnSpec)

/-- 'satchellaw10.VfsAlike', WHERE WHAT IT READS IS OF BULK AT MOST 1048576: true; the input reads as it did. -/
def vfsAlikeUptoRow : OpenClaim := { program := "ytcogkhcfpgelhabgreat", sum := "9cc38bfcca3e4c3b1edc71926de861e506fa23ac47a7cc4c3976b7d56f31d924", func := "satchel/satchellaw10.VfsAlike", spec := "vfsAlike", inPlace := ["internal/bytealg.IndexByteString", "internal/bytealg.IndexString", "internal/bytealg.abigen_runtime_cmpstring"], unfollowed := true, recurses := true, named := ["internal/bytealg.MaxLen"], apart := false, narrowed := true }
def VfsAlikeUptoSaid : Prop := vfsAlikeUptoRow.holds Tryz.pinned (OpenSpec.upto vfsAlikeSpec)

/-- 'satchellaw10.VfsLinks', WHERE WHAT IT READS IS OF BULK AT MOST 1048576: true; the input reads as it did. -/
def vfsLinksUptoRow : OpenClaim := { program := "ytcogkhcfpgelhabgreat", sum := "9cc38bfcca3e4c3b1edc71926de861e506fa23ac47a7cc4c3976b7d56f31d924", func := "satchel/satchellaw10.VfsLinks", spec := "vfsLinks", inPlace := ["internal/bytealg.IndexByteString", "internal/bytealg.IndexString", "internal/bytealg.abigen_runtime_cmpstring"], unfollowed := true, recurses := true, named := ["internal/bytealg.MaxLen"], apart := false, narrowed := true }
def VfsLinksUptoSaid : Prop := vfsLinksUptoRow.holds Tryz.pinned (OpenSpec.upto vfsLinksSpec)

end Rows
end Go.Proofs.YtcogkhcfpgelhabGreat
