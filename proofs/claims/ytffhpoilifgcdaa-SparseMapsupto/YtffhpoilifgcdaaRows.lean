/-
  No cell of these rows narrows 'for every input' (looked for: loops, veiled, ifaces, maps, wideKeys, modest, calm, conditions, laid).
  DERIVED. THE GIVEN ROWS OF THIS SEAT. 3 by the template 'for every input the law returns true; each argument reads behind the call as it read before'; 0 by the template 'total and deterministic' (their statements: YtffhpoilifgcdaaTotals.lean).
  GIVEN WITH THE SEED: the statements are not yours to turn. If you find one false, say at which input.
  Laid BY PROGRAM, IN A SANDBOX (cutbox-rows.mjs): the forced cells as the released guide's own fill.sh prints them over the translation c3f440c08a1417f7… (all of the seat's roots in one cut). By AI agents, Wed Nov 11 2026. No macro, syntax, notation, axiom, sorry.
-/
import Derived.Test.YtffhpoilifgcdaaChecked
import GoSem.Claim
import GoSem.ClaimJoined
import GoSem.ClaimMapViews
import Derived.JoinedTies
import Derived.KernelRfl
namespace Go.Proofs.Ytffhpoilifgcdaa
/- THE CELL 'sum', in the pinned program and in every row, IS THE sha256 OF THE DUMP (.gsa) THAT YtffhpoilifgcdaaProg.lean LOADS. Nothing in Lean hashes anything: it is a label: what it is worth is what the hold of that sum in a sandbox is worth. -/
noncomputable def Try.pinned : Pinned := { name := "ytffhpoilifgcdaa", sum := "c3f440c08a1417f7632c68ac2e7c601f3289dc79f04efd438679f77aa30f8b47", checked := Try.checked }
namespace Rows
def none {H : Type} : Left H := { results := [], args := [] }

/-- 'satchellaw15.SparseMaps': WHATEVER THE INPUT: true; the input reads as it did. -/
def sparseMapsSpec : ChangeSpec := { name := "sparseMaps", fn := fun _ => fun
  | [d] => { results := [.lit (.bool true)], args := [d] }
  | _ => none }
def sparseMapsRow : OpenClaim := { program := "ytffhpoilifgcdaa", sum := "c3f440c08a1417f7632c68ac2e7c601f3289dc79f04efd438679f77aa30f8b47", func := "satchel/satchellaw15.SparseMaps", spec := "sparseMaps", unfollowed := true, recurses := true, apart := false }
def SparseMapsSaid : Prop := sparseMapsRow.holds Try.pinned (OpenSpec.ofChange sparseMapsSpec)

/-- ITS FALSE NEIGHBOUR: 'it returns false'. Refute it at one input. -/
def sparseMapsWrong : ChangeSpec := { name := "sparseMaps", fn := fun _ => fun
  | [d] => { results := [.lit (.bool false)], args := [d] }
  | _ => none }
def SparseMapsWrongFalsely : Prop := sparseMapsRow.holds Try.pinned (OpenSpec.ofChange sparseMapsWrong)

/-- 'satchellaw15.SparseRound': WHATEVER THE INPUT: true; the input reads as it did. -/
def sparseRoundSpec : ChangeSpec := { name := "sparseRound", fn := fun _ => fun
  | [d1, d2] => { results := [.lit (.bool true)], args := [d1, d2] }
  | _ => none }
def sparseRoundRow : OpenClaim := { program := "ytffhpoilifgcdaa", sum := "c3f440c08a1417f7632c68ac2e7c601f3289dc79f04efd438679f77aa30f8b47", func := "satchel/satchellaw15.SparseRound", spec := "sparseRound", unfollowed := true, recurses := true, apart := false }
def SparseRoundSaid : Prop := sparseRoundRow.holds Try.pinned (OpenSpec.ofChange sparseRoundSpec)

/-- ITS FALSE NEIGHBOUR: 'it returns false'. Refute it at one input. -/
def sparseRoundWrong : ChangeSpec := { name := "sparseRound", fn := fun _ => fun
  | [d1, d2] => { results := [.lit (.bool false)], args := [d1, d2] }
  | _ => none }
def SparseRoundWrongFalsely : Prop := sparseRoundRow.holds Try.pinned (OpenSpec.ofChange sparseRoundWrong)

/-- 'satchellaw15.SparseMore': WHATEVER THE INPUT: true; the input reads as it did. -/
def sparseMoreSpec : ChangeSpec := { name := "sparseMore", fn := fun _ => fun
  | [d1, d2, d3] => { results := [.lit (.bool true)], args := [d1, d2, d3] }
  | _ => none }
def sparseMoreRow : OpenClaim := { program := "ytffhpoilifgcdaa", sum := "c3f440c08a1417f7632c68ac2e7c601f3289dc79f04efd438679f77aa30f8b47", func := "satchel/satchellaw15.SparseMore", spec := "sparseMore", unfollowed := true, recurses := true, apart := false }
def SparseMoreSaid : Prop := sparseMoreRow.holds Try.pinned (OpenSpec.ofChange sparseMoreSpec)

/-- ITS FALSE NEIGHBOUR: 'it returns false'. Refute it at one input. -/
def sparseMoreWrong : ChangeSpec := { name := "sparseMore", fn := fun _ => fun
  | [d1, d2, d3] => { results := [.lit (.bool false)], args := [d1, d2, d3] }
  | _ => none }
def SparseMoreWrongFalsely : Prop := sparseMoreRow.holds Try.pinned (OpenSpec.ofChange sparseMoreWrong)

/- THE SECOND FORM. 'bulk': how many values and letters a reading holds, each counted each time it is reached (what is shared counts as often as it is met; a slice's spare places count too). A statement '..UptoSaid' is the law's where the arguments, and the package variables that the reading takes, are together of bulk at most 1048576: NARROWER than '..Said'. Prove '..Said' where nothing that the law and all that it calls make is longer than what came in: it says more and counts as full. Else prove '..UptoSaid'. A law counts once. -/
mutual
def uptoBulk {H : Type} : DataW H → Nat
  | .lit (.string bytes) => bytes.length + 1
  | .lit _ => 1
  | .nil => 1
  | .ptr d => uptoBulk d + 1
  | .slice elems spare => uptoBulkAll elems + uptoBulkAll spare + 1
  | .agg parts => uptoBulkAll parts + 1
  | .iface _ d => uptoBulk d + 1
  | .map entries => uptoBulkEntries entries + 1
  | .held _ => 1
def uptoBulkAll {H : Type} : List (DataW H) → Nat
  | [] => 0
  | d :: r => uptoBulk d + uptoBulkAll r
def uptoBulkEntries {H : Type} : List (Lit × DataW H) → Nat
  | [] => 0
  | x :: r => uptoBulkEntry x + uptoBulkEntries r
def uptoBulkEntry {H : Type} : Lit × DataW H → Nat
  | (.string bytes, d) => bytes.length + uptoBulk d + 1
  | (_, d) => uptoBulk d + 1
 end
def uptoSmall : (H : Type) → List (DataW H) → Bool := fun _ ds => decide (uptoBulkAll ds ≤ 1048576)
def OpenSpec.upto (s : _root_.Go.ChangeSpec) : _root_.Go.OpenSpec := { _root_.Go.OpenSpec.ofChange s with cond := some uptoSmall }

/-- 'satchellaw15.SparseMaps', WHERE WHAT IT READS IS OF BULK AT MOST 1048576: true; the input reads as it did. -/
def sparseMapsUptoRow : OpenClaim := { program := "ytffhpoilifgcdaa", sum := "c3f440c08a1417f7632c68ac2e7c601f3289dc79f04efd438679f77aa30f8b47", func := "satchel/satchellaw15.SparseMaps", spec := "sparseMaps", unfollowed := true, recurses := true, apart := false, narrowed := true }
def SparseMapsUptoSaid : Prop := sparseMapsUptoRow.holds Try.pinned (OpenSpec.upto sparseMapsSpec)

/-- 'satchellaw15.SparseRound', WHERE WHAT IT READS IS OF BULK AT MOST 1048576: true; the input reads as it did. -/
def sparseRoundUptoRow : OpenClaim := { program := "ytffhpoilifgcdaa", sum := "c3f440c08a1417f7632c68ac2e7c601f3289dc79f04efd438679f77aa30f8b47", func := "satchel/satchellaw15.SparseRound", spec := "sparseRound", unfollowed := true, recurses := true, apart := false, narrowed := true }
def SparseRoundUptoSaid : Prop := sparseRoundUptoRow.holds Try.pinned (OpenSpec.upto sparseRoundSpec)

/-- 'satchellaw15.SparseMore', WHERE WHAT IT READS IS OF BULK AT MOST 1048576: true; the input reads as it did. -/
def sparseMoreUptoRow : OpenClaim := { program := "ytffhpoilifgcdaa", sum := "c3f440c08a1417f7632c68ac2e7c601f3289dc79f04efd438679f77aa30f8b47", func := "satchel/satchellaw15.SparseMore", spec := "sparseMore", unfollowed := true, recurses := true, apart := false, narrowed := true }
def SparseMoreUptoSaid : Prop := sparseMoreUptoRow.holds Try.pinned (OpenSpec.upto sparseMoreSpec)

end Rows
end Go.Proofs.Ytffhpoilifgcdaa
