/-
  No cell of these rows narrows 'for every input' (looked for: loops, veiled, ifaces, maps, wideKeys, modest, calm, conditions, laid).
  DERIVED. THE GIVEN ROWS OF THIS SEAT. 6 by the template 'for every input the law returns true; each argument reads behind the call as it read before'; 0 by the template 'total and deterministic' (their statements: YtlfcgldbgejfbaaTotals.lean).
  GIVEN WITH THE SEED: the statements are not yours to turn. If you find one false, say at which input.
  Laid BY PROGRAM, IN A SANDBOX (cutbox-rows.mjs): the forced cells as the released guide's own fill.sh prints them over the translation 47f98ff47d0cc785… (all of the seat's roots in one cut). By AI agents, Wed Nov 11 2026. No macro, syntax, notation, axiom, sorry.
-/
import Derived.Test.YtlfcgldbgejfbaaChecked
import GoSem.Claim
import GoSem.ClaimJoined
import GoSem.ClaimMapViews
import Derived.JoinedTies
import Derived.KernelRfl
namespace Go.Proofs.Ytlfcgldbgejfbaa
/- THE CELL 'sum', in the pinned program and in every row, IS THE sha256 OF THE DUMP (.gsa) THAT YtlfcgldbgejfbaaProg.lean LOADS. Nothing in Lean hashes anything: it is a label: what it is worth is what the hold of that sum in a sandbox is worth. -/
noncomputable def Try.pinned : Pinned := { name := "ytlfcgldbgejfbaa", sum := "47f98ff47d0cc7856eda2ad88f654e4bfbebc0a3bef7bbd2cc7e64e0659696f9", checked := Try.checked }
namespace Rows
def none {H : Type} : Left H := { results := [], args := [] }

/-- 'satchellaw02.XxhSums': WHATEVER THE INPUT: true; the input reads as it did. -/
def xxhSumsSpec : ChangeSpec := { name := "xxhSums", fn := fun _ => fun
  | [d1, d2, d3] => { results := [.lit (.bool true)], args := [d1, d2, d3] }
  | _ => none }
def xxhSumsRow : OpenClaim := { program := "ytlfcgldbgejfbaa", sum := "47f98ff47d0cc7856eda2ad88f654e4bfbebc0a3bef7bbd2cc7e64e0659696f9", func := "satchel/satchellaw02.XxhSums", spec := "xxhSums", unfollowed := true, recurses := true, apart := false }
def XxhSumsSaid : Prop := xxhSumsRow.holds Try.pinned (OpenSpec.ofChange xxhSumsSpec)

/-- ITS FALSE NEIGHBOUR: 'it returns false'. Refute it at one input. -/
def xxhSumsWrong : ChangeSpec := { name := "xxhSums", fn := fun _ => fun
  | [d1, d2, d3] => { results := [.lit (.bool false)], args := [d1, d2, d3] }
  | _ => none }
def XxhSumsWrongFalsely : Prop := xxhSumsRow.holds Try.pinned (OpenSpec.ofChange xxhSumsWrong)

/-- 'satchellaw02.XxhDigests': WHATEVER THE INPUT: true; the input reads as it did. -/
def xxhDigestsSpec : ChangeSpec := { name := "xxhDigests", fn := fun _ => fun
  | [d1, d2, d3] => { results := [.lit (.bool true)], args := [d1, d2, d3] }
  | _ => none }
def xxhDigestsRow : OpenClaim := { program := "ytlfcgldbgejfbaa", sum := "47f98ff47d0cc7856eda2ad88f654e4bfbebc0a3bef7bbd2cc7e64e0659696f9", func := "satchel/satchellaw02.XxhDigests", spec := "xxhDigests", unfollowed := true, recurses := true, apart := false }
def XxhDigestsSaid : Prop := xxhDigestsRow.holds Try.pinned (OpenSpec.ofChange xxhDigestsSpec)

/-- ITS FALSE NEIGHBOUR: 'it returns false'. Refute it at one input. -/
def xxhDigestsWrong : ChangeSpec := { name := "xxhDigests", fn := fun _ => fun
  | [d1, d2, d3] => { results := [.lit (.bool false)], args := [d1, d2, d3] }
  | _ => none }
def XxhDigestsWrongFalsely : Prop := xxhDigestsRow.holds Try.pinned (OpenSpec.ofChange xxhDigestsWrong)

/-- 'satchellaw02.XxhPieces': WHATEVER THE INPUT: true; the input reads as it did. -/
def xxhPiecesSpec : ChangeSpec := { name := "xxhPieces", fn := fun _ => fun
  | [d1, d2, d3] => { results := [.lit (.bool true)], args := [d1, d2, d3] }
  | _ => none }
def xxhPiecesRow : OpenClaim := { program := "ytlfcgldbgejfbaa", sum := "47f98ff47d0cc7856eda2ad88f654e4bfbebc0a3bef7bbd2cc7e64e0659696f9", func := "satchel/satchellaw02.XxhPieces", spec := "xxhPieces", unfollowed := true, recurses := true, apart := false }
def XxhPiecesSaid : Prop := xxhPiecesRow.holds Try.pinned (OpenSpec.ofChange xxhPiecesSpec)

/-- ITS FALSE NEIGHBOUR: 'it returns false'. Refute it at one input. -/
def xxhPiecesWrong : ChangeSpec := { name := "xxhPieces", fn := fun _ => fun
  | [d1, d2, d3] => { results := [.lit (.bool false)], args := [d1, d2, d3] }
  | _ => none }
def XxhPiecesWrongFalsely : Prop := xxhPiecesRow.holds Try.pinned (OpenSpec.ofChange xxhPiecesWrong)

/-- 'satchellaw02.XxhWord': WHATEVER THE INPUT: true; the input reads as it did. -/
def xxhWordSpec : ChangeSpec := { name := "xxhWord", fn := fun _ => fun
  | [d1, d2, d3, d4] => { results := [.lit (.bool true)], args := [d1, d2, d3, d4] }
  | _ => none }
def xxhWordRow : OpenClaim := { program := "ytlfcgldbgejfbaa", sum := "47f98ff47d0cc7856eda2ad88f654e4bfbebc0a3bef7bbd2cc7e64e0659696f9", func := "satchel/satchellaw02.XxhWord", spec := "xxhWord", unfollowed := true, recurses := true, apart := false }
def XxhWordSaid : Prop := xxhWordRow.holds Try.pinned (OpenSpec.ofChange xxhWordSpec)

/-- ITS FALSE NEIGHBOUR: 'it returns false'. Refute it at one input. -/
def xxhWordWrong : ChangeSpec := { name := "xxhWord", fn := fun _ => fun
  | [d1, d2, d3, d4] => { results := [.lit (.bool false)], args := [d1, d2, d3, d4] }
  | _ => none }
def XxhWordWrongFalsely : Prop := xxhWordRow.holds Try.pinned (OpenSpec.ofChange xxhWordWrong)

/-- 'satchellaw02.XxhLong': WHATEVER THE INPUT: true; the input reads as it did. -/
def xxhLongSpec : ChangeSpec := { name := "xxhLong", fn := fun _ => fun
  | [d1, d2, d3, d4] => { results := [.lit (.bool true)], args := [d1, d2, d3, d4] }
  | _ => none }
def xxhLongRow : OpenClaim := { program := "ytlfcgldbgejfbaa", sum := "47f98ff47d0cc7856eda2ad88f654e4bfbebc0a3bef7bbd2cc7e64e0659696f9", func := "satchel/satchellaw02.XxhLong", spec := "xxhLong", unfollowed := true, recurses := true, apart := false }
def XxhLongSaid : Prop := xxhLongRow.holds Try.pinned (OpenSpec.ofChange xxhLongSpec)

/-- ITS FALSE NEIGHBOUR: 'it returns false'. Refute it at one input. -/
def xxhLongWrong : ChangeSpec := { name := "xxhLong", fn := fun _ => fun
  | [d1, d2, d3, d4] => { results := [.lit (.bool false)], args := [d1, d2, d3, d4] }
  | _ => none }
def XxhLongWrongFalsely : Prop := xxhLongRow.holds Try.pinned (OpenSpec.ofChange xxhLongWrong)

/-- 'satchellaw02.XxhSeeds': WHATEVER THE INPUT: true; the input reads as it did. -/
def xxhSeedsSpec : ChangeSpec := { name := "xxhSeeds", fn := fun _ => fun
  | [d1, d2, d3] => { results := [.lit (.bool true)], args := [d1, d2, d3] }
  | _ => none }
def xxhSeedsRow : OpenClaim := { program := "ytlfcgldbgejfbaa", sum := "47f98ff47d0cc7856eda2ad88f654e4bfbebc0a3bef7bbd2cc7e64e0659696f9", func := "satchel/satchellaw02.XxhSeeds", spec := "xxhSeeds", unfollowed := true, recurses := true, apart := false }
def XxhSeedsSaid : Prop := xxhSeedsRow.holds Try.pinned (OpenSpec.ofChange xxhSeedsSpec)

/-- ITS FALSE NEIGHBOUR: 'it returns false'. Refute it at one input. -/
def xxhSeedsWrong : ChangeSpec := { name := "xxhSeeds", fn := fun _ => fun
  | [d1, d2, d3] => { results := [.lit (.bool false)], args := [d1, d2, d3] }
  | _ => none }
def XxhSeedsWrongFalsely : Prop := xxhSeedsRow.holds Try.pinned (OpenSpec.ofChange xxhSeedsWrong)

/- THE SECOND FORM. 'bulk': how many values and letters a reading holds, each counted each time it is reached (what is shared counts as often as it is met; a slice's spare places count too). A statement '..UptoSaid' is the law's where the arguments, and the package variables that the reading takes, are together of bulk at most 1048576: NARROWER than '..Said'. Prove '..Said' where nothing that the law and all that it calls make is longer than what came in: it says more and counts as full. Else prove '..UptoSaid'. A law counts once. -/
mutual
def uptoBulk {H : Type} : DataW H → Nat
  | .lit (.string bytes) => bytes.length + 1
  | .lit _ => 1
  | .nil => 1
  | .ptr d => uptoBulk d + 1
  | .slice elems spare => uptoBulkAll elems + uptoBulkAll spare + 1
  | .agg parts => uptoBulkAll parts + 1
  | .iface _ d => uptoBulk d + 1
  | .map entries => uptoBulkEntries entries + 1
  | .held _ => 1
def uptoBulkAll {H : Type} : List (DataW H) → Nat
  | [] => 0
  | d :: r => uptoBulk d + uptoBulkAll r
def uptoBulkEntries {H : Type} : List (Lit × DataW H) → Nat
  | [] => 0
  | x :: r => uptoBulkEntry x + uptoBulkEntries r
def uptoBulkEntry {H : Type} : Lit × DataW H → Nat
  | (.string bytes, d) => bytes.length + uptoBulk d + 1
  | (_, d) => uptoBulk d + 1
 end
def uptoSmall : (H : Type) → List (DataW H) → Bool := fun _ ds => decide (uptoBulkAll ds ≤ 1048576)
def OpenSpec.upto (s : _root_.Go.ChangeSpec) : _root_.Go.OpenSpec := { _root_.Go.OpenSpec.ofChange s with cond := some uptoSmall }

/-- 'satchellaw02.XxhSums', WHERE WHAT IT READS IS OF BULK AT MOST 1048576: true; the input reads as it did. -/
def xxhSumsUptoRow : OpenClaim := { program := "ytlfcgldbgejfbaa", sum := "47f98ff47d0cc7856eda2ad88f654e4bfbebc0a3bef7bbd2cc7e64e0659696f9", func := "satchel/satchellaw02.XxhSums", spec := "xxhSums", unfollowed := true, recurses := true, apart := false, narrowed := true }
def XxhSumsUptoSaid : Prop := xxhSumsUptoRow.holds Try.pinned (OpenSpec.upto xxhSumsSpec)

/-- 'satchellaw02.XxhDigests', WHERE WHAT IT READS IS OF BULK AT MOST 1048576: true; the input reads as it did. -/
def xxhDigestsUptoRow : OpenClaim := { program := "ytlfcgldbgejfbaa", sum := "47f98ff47d0cc7856eda2ad88f654e4bfbebc0a3bef7bbd2cc7e64e0659696f9", func := "satchel/satchellaw02.XxhDigests", spec := "xxhDigests", unfollowed := true, recurses := true, apart := false, narrowed := true }
def XxhDigestsUptoSaid : Prop := xxhDigestsUptoRow.holds Try.pinned (OpenSpec.upto xxhDigestsSpec)

/-- 'satchellaw02.XxhPieces', WHERE WHAT IT READS IS OF BULK AT MOST 1048576: true; the input reads as it did. -/
def xxhPiecesUptoRow : OpenClaim := { program := "ytlfcgldbgejfbaa", sum := "47f98ff47d0cc7856eda2ad88f654e4bfbebc0a3bef7bbd2cc7e64e0659696f9", func := "satchel/satchellaw02.XxhPieces", spec := "xxhPieces", unfollowed := true, recurses := true, apart := false, narrowed := true }
def XxhPiecesUptoSaid : Prop := xxhPiecesUptoRow.holds Try.pinned (OpenSpec.upto xxhPiecesSpec)

/-- 'satchellaw02.XxhWord', WHERE WHAT IT READS IS OF BULK AT MOST 1048576: true; the input reads as it did. -/
def xxhWordUptoRow : OpenClaim := { program := "ytlfcgldbgejfbaa", sum := "47f98ff47d0cc7856eda2ad88f654e4bfbebc0a3bef7bbd2cc7e64e0659696f9", func := "satchel/satchellaw02.XxhWord", spec := "xxhWord", unfollowed := true, recurses := true, apart := false, narrowed := true }
def XxhWordUptoSaid : Prop := xxhWordUptoRow.holds Try.pinned (OpenSpec.upto xxhWordSpec)

/-- 'satchellaw02.XxhLong', WHERE WHAT IT READS IS OF BULK AT MOST 1048576: true; the input reads as it did. -/
def xxhLongUptoRow : OpenClaim := { program := "ytlfcgldbgejfbaa", sum := "47f98ff47d0cc7856eda2ad88f654e4bfbebc0a3bef7bbd2cc7e64e0659696f9", func := "satchel/satchellaw02.XxhLong", spec := "xxhLong", unfollowed := true, recurses := true, apart := false, narrowed := true }
def XxhLongUptoSaid : Prop := xxhLongUptoRow.holds Try.pinned (OpenSpec.upto xxhLongSpec)

/-- 'satchellaw02.XxhSeeds', WHERE WHAT IT READS IS OF BULK AT MOST 1048576: true; the input reads as it did. -/
def xxhSeedsUptoRow : OpenClaim := { program := "ytlfcgldbgejfbaa", sum := "47f98ff47d0cc7856eda2ad88f654e4bfbebc0a3bef7bbd2cc7e64e0659696f9", func := "satchel/satchellaw02.XxhSeeds", spec := "xxhSeeds", unfollowed := true, recurses := true, apart := false, narrowed := true }
def XxhSeedsUptoSaid : Prop := xxhSeedsUptoRow.holds Try.pinned (OpenSpec.upto xxhSeedsSpec)

end Rows
end Go.Proofs.Ytlfcgldbgejfbaa
