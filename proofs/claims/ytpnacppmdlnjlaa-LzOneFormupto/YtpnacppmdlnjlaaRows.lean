/-
  No cell of these rows narrows 'for every input' (looked for: loops, veiled, ifaces, maps, wideKeys, modest, calm, conditions, laid).
  DERIVED. THE GIVEN ROWS OF THIS SEAT. 6 by the template 'for every input the law returns true; each argument reads behind the call as it read before'; 0 by the template 'total and deterministic' (their statements: YtpnacppmdlnjlaaTotals.lean).
  GIVEN WITH THE SEED: the statements are not yours to turn. If you find one false, say at which input.
  Laid BY PROGRAM, IN A SANDBOX (cutbox-rows.mjs): the forced cells as the released guide's own fill.sh prints them over the translation 1af9c7cd33808c66… (all of the seat's roots in one cut). By AI agents, Wed Nov 11 2026. No macro, syntax, notation, axiom, sorry.
-/
import Derived.Test.YtpnacppmdlnjlaaChecked
import GoSem.Claim
import GoSem.ClaimJoined
import GoSem.ClaimMapViews
import Derived.JoinedTies
import Derived.KernelRfl
namespace Go.Proofs.Ytpnacppmdlnjlaa
/- THE CELL 'sum', in the pinned program and in every row, IS THE sha256 OF THE DUMP (.gsa) THAT YtpnacppmdlnjlaaProg.lean LOADS. Nothing in Lean hashes anything: it is a label: what it is worth is what the hold of that sum in a sandbox is worth. -/
noncomputable def Try.pinned : Pinned := { name := "ytpnacppmdlnjlaa", sum := "1af9c7cd33808c6666b04e805a699a35c1a89797e5c06b76de02c8cab468484b", checked := Try.checked }
namespace Rows
def none {H : Type} : Left H := { results := [], args := [] }

/-- 'satchellaw03.LzDecodes': WHATEVER THE INPUT: true; the input reads as it did. -/
def lzDecodesSpec : ChangeSpec := { name := "lzDecodes", fn := fun _ => fun
  | [d1, d2, d3] => { results := [.lit (.bool true)], args := [d1, d2, d3] }
  | _ => none }
def lzDecodesRow : OpenClaim := { program := "ytpnacppmdlnjlaa", sum := "1af9c7cd33808c6666b04e805a699a35c1a89797e5c06b76de02c8cab468484b", func := "satchel/satchellaw03.LzDecodes", spec := "lzDecodes", unfollowed := true, recurses := true, plainKeys := false, apart := false }
def LzDecodesSaid : Prop := lzDecodesRow.holds Try.pinned (OpenSpec.ofChange lzDecodesSpec)

/-- ITS FALSE NEIGHBOUR: 'it returns false'. Refute it at one input. -/
def lzDecodesWrong : ChangeSpec := { name := "lzDecodes", fn := fun _ => fun
  | [d1, d2, d3] => { results := [.lit (.bool false)], args := [d1, d2, d3] }
  | _ => none }
def LzDecodesWrongFalsely : Prop := lzDecodesRow.holds Try.pinned (OpenSpec.ofChange lzDecodesWrong)

/-- 'satchellaw03.LzParses': WHATEVER THE INPUT: true; the input reads as it did. -/
def lzParsesSpec : ChangeSpec := { name := "lzParses", fn := fun _ => fun
  | [d] => { results := [.lit (.bool true)], args := [d] }
  | _ => none }
def lzParsesRow : OpenClaim := { program := "ytpnacppmdlnjlaa", sum := "1af9c7cd33808c6666b04e805a699a35c1a89797e5c06b76de02c8cab468484b", func := "satchel/satchellaw03.LzParses", spec := "lzParses", unfollowed := true, recurses := true, plainKeys := false, apart := false }
def LzParsesSaid : Prop := lzParsesRow.holds Try.pinned (OpenSpec.ofChange lzParsesSpec)

/-- ITS FALSE NEIGHBOUR: 'it returns false'. Refute it at one input. -/
def lzParsesWrong : ChangeSpec := { name := "lzParses", fn := fun _ => fun
  | [d] => { results := [.lit (.bool false)], args := [d] }
  | _ => none }
def LzParsesWrongFalsely : Prop := lzParsesRow.holds Try.pinned (OpenSpec.ofChange lzParsesWrong)

/-- 'satchellaw03.LzMakes': WHATEVER THE INPUT: true; the input reads as it did. -/
def lzMakesSpec : ChangeSpec := { name := "lzMakes", fn := fun _ => fun
  | [d1, d2, d3] => { results := [.lit (.bool true)], args := [d1, d2, d3] }
  | _ => none }
def lzMakesRow : OpenClaim := { program := "ytpnacppmdlnjlaa", sum := "1af9c7cd33808c6666b04e805a699a35c1a89797e5c06b76de02c8cab468484b", func := "satchel/satchellaw03.LzMakes", spec := "lzMakes", plainKeys := false, apart := false }
def LzMakesSaid : Prop := lzMakesRow.holds Try.pinned (OpenSpec.ofChange lzMakesSpec)

/-- ITS FALSE NEIGHBOUR: 'it returns false'. Refute it at one input. -/
def lzMakesWrong : ChangeSpec := { name := "lzMakes", fn := fun _ => fun
  | [d1, d2, d3] => { results := [.lit (.bool false)], args := [d1, d2, d3] }
  | _ => none }
def LzMakesWrongFalsely : Prop := lzMakesRow.holds Try.pinned (OpenSpec.ofChange lzMakesWrong)

/-- 'satchellaw03.LzRound': WHATEVER THE INPUT: true; the input reads as it did. -/
def lzRoundSpec : ChangeSpec := { name := "lzRound", fn := fun _ => fun
  | [d1, d2] => { results := [.lit (.bool true)], args := [d1, d2] }
  | _ => none }
def lzRoundRow : OpenClaim := { program := "ytpnacppmdlnjlaa", sum := "1af9c7cd33808c6666b04e805a699a35c1a89797e5c06b76de02c8cab468484b", func := "satchel/satchellaw03.LzRound", spec := "lzRound", unfollowed := true, recurses := true, plainKeys := false, apart := false }
def LzRoundSaid : Prop := lzRoundRow.holds Try.pinned (OpenSpec.ofChange lzRoundSpec)

/-- ITS FALSE NEIGHBOUR: 'it returns false'. Refute it at one input. -/
def lzRoundWrong : ChangeSpec := { name := "lzRound", fn := fun _ => fun
  | [d1, d2] => { results := [.lit (.bool false)], args := [d1, d2] }
  | _ => none }
def LzRoundWrongFalsely : Prop := lzRoundRow.holds Try.pinned (OpenSpec.ofChange lzRoundWrong)

/-- 'satchellaw03.LzOneForm': WHATEVER THE INPUT: true; the input reads as it did. -/
def lzOneFormSpec : ChangeSpec := { name := "lzOneForm", fn := fun _ => fun
  | [d] => { results := [.lit (.bool true)], args := [d] }
  | _ => none }
def lzOneFormRow : OpenClaim := { program := "ytpnacppmdlnjlaa", sum := "1af9c7cd33808c6666b04e805a699a35c1a89797e5c06b76de02c8cab468484b", func := "satchel/satchellaw03.LzOneForm", spec := "lzOneForm", unfollowed := true, recurses := true, plainKeys := false, apart := false }
def LzOneFormSaid : Prop := lzOneFormRow.holds Try.pinned (OpenSpec.ofChange lzOneFormSpec)

/-- ITS FALSE NEIGHBOUR: 'it returns false'. Refute it at one input. -/
def lzOneFormWrong : ChangeSpec := { name := "lzOneForm", fn := fun _ => fun
  | [d] => { results := [.lit (.bool false)], args := [d] }
  | _ => none }
def LzOneFormWrongFalsely : Prop := lzOneFormRow.holds Try.pinned (OpenSpec.ofChange lzOneFormWrong)

/-- 'satchellaw03.LzSmall': WHATEVER THE INPUT: true; the input reads as it did. -/
def lzSmallSpec : ChangeSpec := { name := "lzSmall", fn := fun _ => fun
  | [d1, d2] => { results := [.lit (.bool true)], args := [d1, d2] }
  | _ => none }
def lzSmallRow : OpenClaim := { program := "ytpnacppmdlnjlaa", sum := "1af9c7cd33808c6666b04e805a699a35c1a89797e5c06b76de02c8cab468484b", func := "satchel/satchellaw03.LzSmall", spec := "lzSmall", plainKeys := false, apart := false }
def LzSmallSaid : Prop := lzSmallRow.holds Try.pinned (OpenSpec.ofChange lzSmallSpec)

/-- ITS FALSE NEIGHBOUR: 'it returns false'. Refute it at one input. -/
def lzSmallWrong : ChangeSpec := { name := "lzSmall", fn := fun _ => fun
  | [d1, d2] => { results := [.lit (.bool false)], args := [d1, d2] }
  | _ => none }
def LzSmallWrongFalsely : Prop := lzSmallRow.holds Try.pinned (OpenSpec.ofChange lzSmallWrong)

/- THE SECOND FORM. 'bulk': how many values and letters a reading holds, each counted each time it is reached (what is shared counts as often as it is met; a slice's spare places count too). A statement '..UptoSaid' is the law's where the arguments, and the package variables that the reading takes, are together of bulk at most 1048576: NARROWER than '..Said'. Prove '..Said' where nothing that the law and all that it calls make is longer than what came in: it says more and counts as full. Else prove '..UptoSaid'. A law counts once. -/
mutual
def uptoBulk {H : Type} : DataW H → Nat
  | .lit (.string bytes) => bytes.length + 1
  | .lit _ => 1
  | .nil => 1
  | .ptr d => uptoBulk d + 1
  | .slice elems spare => uptoBulkAll elems + uptoBulkAll spare + 1
  | .agg parts => uptoBulkAll parts + 1
  | .iface _ d => uptoBulk d + 1
  | .map entries => uptoBulkEntries entries + 1
  | .held _ => 1
def uptoBulkAll {H : Type} : List (DataW H) → Nat
  | [] => 0
  | d :: r => uptoBulk d + uptoBulkAll r
def uptoBulkEntries {H : Type} : List (Lit × DataW H) → Nat
  | [] => 0
  | x :: r => uptoBulkEntry x + uptoBulkEntries r
def uptoBulkEntry {H : Type} : Lit × DataW H → Nat
  | (.string bytes, d) => bytes.length + uptoBulk d + 1
  | (_, d) => uptoBulk d + 1
 end
def uptoSmall : (H : Type) → List (DataW H) → Bool := fun _ ds => decide (uptoBulkAll ds ≤ 1048576)
def OpenSpec.upto (s : _root_.Go.ChangeSpec) : _root_.Go.OpenSpec := { _root_.Go.OpenSpec.ofChange s with cond := some uptoSmall }

/-- 'satchellaw03.LzDecodes', WHERE WHAT IT READS IS OF BULK AT MOST 1048576: true; the input reads as it did. -/
def lzDecodesUptoRow : OpenClaim := { program := "ytpnacppmdlnjlaa", sum := "1af9c7cd33808c6666b04e805a699a35c1a89797e5c06b76de02c8cab468484b", func := "satchel/satchellaw03.LzDecodes", spec := "lzDecodes", unfollowed := true, recurses := true, plainKeys := false, apart := false, narrowed := true }
def LzDecodesUptoSaid : Prop := lzDecodesUptoRow.holds Try.pinned (OpenSpec.upto lzDecodesSpec)

/-- 'satchellaw03.LzParses', WHERE WHAT IT READS IS OF BULK AT MOST 1048576: true; the input reads as it did. -/
def lzParsesUptoRow : OpenClaim := { program := "ytpnacppmdlnjlaa", sum := "1af9c7cd33808c6666b04e805a699a35c1a89797e5c06b76de02c8cab468484b", func := "satchel/satchellaw03.LzParses", spec := "lzParses", unfollowed := true, recurses := true, plainKeys := false, apart := false, narrowed := true }
def LzParsesUptoSaid : Prop := lzParsesUptoRow.holds Try.pinned (OpenSpec.upto lzParsesSpec)

/-- 'satchellaw03.LzMakes', WHERE WHAT IT READS IS OF BULK AT MOST 1048576: true; the input reads as it did. -/
def lzMakesUptoRow : OpenClaim := { program := "ytpnacppmdlnjlaa", sum := "1af9c7cd33808c6666b04e805a699a35c1a89797e5c06b76de02c8cab468484b", func := "satchel/satchellaw03.LzMakes", spec := "lzMakes", plainKeys := false, apart := false, narrowed := true }
def LzMakesUptoSaid : Prop := lzMakesUptoRow.holds Try.pinned (OpenSpec.upto lzMakesSpec)

/-- 'satchellaw03.LzRound', WHERE WHAT IT READS IS OF BULK AT MOST 1048576: true; the input reads as it did. -/
def lzRoundUptoRow : OpenClaim := { program := "ytpnacppmdlnjlaa", sum := "1af9c7cd33808c6666b04e805a699a35c1a89797e5c06b76de02c8cab468484b", func := "satchel/satchellaw03.LzRound", spec := "lzRound", unfollowed := true, recurses := true, plainKeys := false, apart := false, narrowed := true }
def LzRoundUptoSaid : Prop := lzRoundUptoRow.holds Try.pinned (OpenSpec.upto lzRoundSpec)

/-- 'satchellaw03.LzOneForm', WHERE WHAT IT READS IS OF BULK AT MOST 1048576: true; the input reads as it did. -/
def lzOneFormUptoRow : OpenClaim := { program := "ytpnacppmdlnjlaa", sum := "1af9c7cd33808c6666b04e805a699a35c1a89797e5c06b76de02c8cab468484b", func := "satchel/satchellaw03.LzOneForm", spec := "lzOneForm", unfollowed := true, recurses := true, plainKeys := false, apart := false, narrowed := true }
def LzOneFormUptoSaid : Prop := lzOneFormUptoRow.holds Try.pinned (OpenSpec.upto lzOneFormSpec)

/-- 'satchellaw03.LzSmall', WHERE WHAT IT READS IS OF BULK AT MOST 1048576: true; the input reads as it did. -/
def lzSmallUptoRow : OpenClaim := { program := "ytpnacppmdlnjlaa", sum := "1af9c7cd33808c6666b04e805a699a35c1a89797e5c06b76de02c8cab468484b", func := "satchel/satchellaw03.LzSmall", spec := "lzSmall", plainKeys := false, apart := false, narrowed := true }
def LzSmallUptoSaid : Prop := lzSmallUptoRow.holds Try.pinned (OpenSpec.upto lzSmallSpec)

end Rows
end Go.Proofs.Ytpnacppmdlnjlaa
