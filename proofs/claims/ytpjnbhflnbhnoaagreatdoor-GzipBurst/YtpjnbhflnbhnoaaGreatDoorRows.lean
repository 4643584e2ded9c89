/-
  NARROWER THAN 'FOR EVERY INPUT', by the rows' own cells (each row's printed sentence says how): GzipEncodes: laid · GzipDecodes: laid · GzipBack: laid · GzipBurst: laid · GzipBounded: laid · GzipOnes: laid.
  DERIVED. THE GIVEN ROWS OF THIS SEAT. 6 by the template 'for every input the law returns true; each argument reads behind the call as it read before'; 0 by the template 'total and deterministic' (their statements: YtpjnbhflnbhnoaaGreatDoorTotals.lean).
  GIVEN WITH THE SEED: the statements are not yours to turn. If you find one false, say at which input.
  Laid BY PROGRAM, IN A SANDBOX (cutbox-rows.mjs): the forced cells as the released guide's own fill.sh prints them over the translation 5860bf47ea68bc1c… (all of the seat's roots in one cut). By AI agents, Wed Nov 11 2026. No macro, syntax, notation, axiom, sorry.
-/
import Derived.Test.YtpjnbhflnbhnoaaGreatDoorChecked
import GoSem.PinnedTables
import GoSem.Claim
import GoSem.ClaimJoined
import GoSem.ClaimMapViews
import Derived.JoinedTies
import Derived.KernelRfl
namespace Go.Proofs.YtpjnbhflnbhnoaaGreatDoor
/- THE CELL 'sum', in the pinned program and in every row, IS THE sha256 OF THE DUMP (.gsa) THAT YtpjnbhflnbhnoaaGreatDoorProg.lean LOADS. Nothing in Lean hashes anything: it is a label: what it is worth is what the hold of that sum in a sandbox is worth. -/
noncomputable def Tryz.pinned : Pinned := { name := "ytpjnbhflnbhnoaagreatdoor", sum := "5860bf47ea68bc1ce44d21b2577b6cf3824ded53ff108cb37e978bf7ca0df735", checked := Tryz.checked }
namespace Rows
def none {H : Type} : Left H := { results := [], args := [] }

/- WHAT THE LISTED PACKAGE-LEVEL VARIABLES READ AS WHEN THE CALL BEGINS. Each datum BY PROGRAM (the guide's laid-datum.mjs) off the statement by which the dump's own 'gosem.cut.vars' lays the variable. In a bare row this is a premise. The card (YtpjnbhflnbhnoaaGreatDoorCards.lean) ties it to the program's text. -/
def laid_satchel_deflate_order {H : Type} : DataW H := .agg [.lit (.int .i64 16), .lit (.int .i64 17), .lit (.int .i64 18), .lit (.int .i64 0), .lit (.int .i64 8), .lit (.int .i64 7), .lit (.int .i64 9), .lit (.int .i64 6), .lit (.int .i64 10), .lit (.int .i64 5), .lit (.int .i64 11), .lit (.int .i64 4), .lit (.int .i64 12), .lit (.int .i64 3), .lit (.int .i64 13), .lit (.int .i64 2), .lit (.int .i64 14), .lit (.int .i64 1), .lit (.int .i64 15)]
def laid_satchel_gzip_turned {H : Type} : DataW H := .agg [.lit (.int .u32 0), .lit (.int .u32 498536548), .lit (.int .u32 997073096), .lit (.int .u32 651767980), .lit (.int .u32 1994146192), .lit (.int .u32 1802195444), .lit (.int .u32 1303535960), .lit (.int .u32 1342533948), .lit (.int .u32 3988292384), .lit (.int .u32 4027552580), .lit (.int .u32 3604390888), .lit (.int .u32 3412177804), .lit (.int .u32 2607071920), .lit (.int .u32 2262029012), .lit (.int .u32 2685067896), .lit (.int .u32 3183342108)]
def laid_unicode_utf8_acceptRanges {H : Type} : DataW H := .agg [.agg [.lit (.int .u8 128), .lit (.int .u8 191)], .agg [.lit (.int .u8 160), .lit (.int .u8 191)], .agg [.lit (.int .u8 128), .lit (.int .u8 159)], .agg [.lit (.int .u8 144), .lit (.int .u8 191)], .agg [.lit (.int .u8 128), .lit (.int .u8 143)], .agg [.lit (.int .u8 0), .lit (.int .u8 0)], .agg [.lit (.int .u8 0), .lit (.int .u8 0)], .agg [.lit (.int .u8 0), .lit (.int .u8 0)], .agg [.lit (.int .u8 0), .lit (.int .u8 0)], .agg [.lit (.int .u8 0), .lit (.int .u8 0)], .agg [.lit (.int .u8 0), .lit (.int .u8 0)], .agg [.lit (.int .u8 0), .lit (.int .u8 0)], .agg [.lit (.int .u8 0), .lit (.int .u8 0)], .agg [.lit (.int .u8 0), .lit (.int .u8 0)], .agg [.lit (.int .u8 0), .lit (.int .u8 0)], .agg [.lit (.int .u8 0), .lit (.int .u8 0)]]
def laid_satchel_inflate_order {H : Type} : DataW H := .agg [.lit (.int .i64 16), .lit (.int .i64 17), .lit (.int .i64 18), .lit (.int .i64 0), .lit (.int .i64 8), .lit (.int .i64 7), .lit (.int .i64 9), .lit (.int .i64 6), .lit (.int .i64 10), .lit (.int .i64 5), .lit (.int .i64 11), .lit (.int .i64 4), .lit (.int .i64 12), .lit (.int .i64 3), .lit (.int .i64 13), .lit (.int .i64 2), .lit (.int .i64 14), .lit (.int .i64 1), .lit (.int .i64 15)]
/-- One of Go's own tables, pinned by name: the form's constant. -/
def laid_unicode_utf8_first : DataW Unit := Go.Pinned.utf8First

/-- 'satchellaw08.GzipEncodes': WHATEVER THE INPUT: true; the input reads as it did. -/
def gzipEncodesSpec : ChangeSpec := { name := "gzipEncodes", fn := fun _ => fun
  | [d1, d2, d3] => { results := [.lit (.bool true)], args := [d1, d2, d3] }
  | _ => none }
def gzipEncodesRow : OpenClaim := { program := "ytpjnbhflnbhnoaagreatdoor", sum := "5860bf47ea68bc1ce44d21b2577b6cf3824ded53ff108cb37e978bf7ca0df735", func := "satchel/satchellaw08.GzipEncodes", spec := "gzipEncodes", inPlace := ["internal/bytealg.IndexByteString", "internal/bytealg.IndexString"], unfollowed := true, recurses := true, named := ["internal/bytealg.MaxLen", "satchel/gzip.turned", "satchel/deflate.order"], plainKeys := false, apart := false, laid := [("satchel/deflate.order", laid_satchel_deflate_order), ("satchel/gzip.turned", laid_satchel_gzip_turned)] }
def GzipEncodesSaid : Prop := gzipEncodesRow.holds Tryz.pinned (OpenSpec.ofChange gzipEncodesSpec)

/-- ITS FALSE NEIGHBOUR: 'it returns false'. Refute it at one input. -/
def gzipEncodesWrong : ChangeSpec := { name := "gzipEncodes", fn := fun _ => fun
  | [d1, d2, d3] => { results := [.lit (.bool false)], args := [d1, d2, d3] }
  | _ => none }
def GzipEncodesWrongFalsely : Prop := gzipEncodesRow.holds Tryz.pinned (OpenSpec.ofChange gzipEncodesWrong)

/-- 'satchellaw08.GzipDecodes': WHATEVER THE INPUT: true; the input reads as it did. -/
def gzipDecodesSpec : ChangeSpec := { name := "gzipDecodes", fn := fun _ => fun
  | [d1, d2] => { results := [.lit (.bool true)], args := [d1, d2] }
  | _ => none }
def gzipDecodesRow : OpenClaim := { program := "ytpjnbhflnbhnoaagreatdoor", sum := "5860bf47ea68bc1ce44d21b2577b6cf3824ded53ff108cb37e978bf7ca0df735", func := "satchel/satchellaw08.GzipDecodes", spec := "gzipDecodes", inPlace := ["internal/bytealg.IndexByte"], unfollowed := true, recurses := true, named := ["satchel/gzip.turned", "satchel/inflate.order", "unicode/utf8.first", "unicode/utf8.acceptRanges"], plainKeys := false, apart := false, laid := [("unicode/utf8.acceptRanges", laid_unicode_utf8_acceptRanges), ("satchel/inflate.order", laid_satchel_inflate_order), ("satchel/gzip.turned", laid_satchel_gzip_turned), ("unicode/utf8.first", laid_unicode_utf8_first)] }
def GzipDecodesSaid : Prop := gzipDecodesRow.holds Tryz.pinned (OpenSpec.ofChange gzipDecodesSpec)

/-- ITS FALSE NEIGHBOUR: 'it returns false'. Refute it at one input. -/
def gzipDecodesWrong : ChangeSpec := { name := "gzipDecodes", fn := fun _ => fun
  | [d1, d2] => { results := [.lit (.bool false)], args := [d1, d2] }
  | _ => none }
def GzipDecodesWrongFalsely : Prop := gzipDecodesRow.holds Tryz.pinned (OpenSpec.ofChange gzipDecodesWrong)

/-- 'satchellaw08.GzipBack': WHATEVER THE INPUT: true; the input reads as it did. -/
def gzipBackSpec : ChangeSpec := { name := "gzipBack", fn := fun _ => fun
  | [d1, d2] => { results := [.lit (.bool true)], args := [d1, d2] }
  | _ => none }
def gzipBackRow : OpenClaim := { program := "ytpjnbhflnbhnoaagreatdoor", sum := "5860bf47ea68bc1ce44d21b2577b6cf3824ded53ff108cb37e978bf7ca0df735", func := "satchel/satchellaw08.GzipBack", spec := "gzipBack", inPlace := ["internal/bytealg.IndexByteString", "internal/bytealg.IndexString", "internal/bytealg.IndexByte"], unfollowed := true, recurses := true, named := ["internal/bytealg.MaxLen", "satchel/gzip.turned", "satchel/deflate.order", "unicode/utf8.first", "unicode/utf8.acceptRanges", "satchel/inflate.order"], plainKeys := false, apart := false, laid := [("unicode/utf8.acceptRanges", laid_unicode_utf8_acceptRanges), ("satchel/deflate.order", laid_satchel_deflate_order), ("satchel/inflate.order", laid_satchel_inflate_order), ("satchel/gzip.turned", laid_satchel_gzip_turned), ("unicode/utf8.first", laid_unicode_utf8_first)] }
def GzipBackSaid : Prop := gzipBackRow.holds Tryz.pinned (OpenSpec.ofChange gzipBackSpec)

/-- ITS FALSE NEIGHBOUR: 'it returns false'. Refute it at one input. -/
def gzipBackWrong : ChangeSpec := { name := "gzipBack", fn := fun _ => fun
  | [d1, d2] => { results := [.lit (.bool false)], args := [d1, d2] }
  | _ => none }
def GzipBackWrongFalsely : Prop := gzipBackRow.holds Tryz.pinned (OpenSpec.ofChange gzipBackWrong)

/-- 'satchellaw08.GzipBurst': WHATEVER THE INPUT: true; the input reads as it did. -/
def gzipBurstSpec : ChangeSpec := { name := "gzipBurst", fn := fun _ => fun
  | [d1, d2, d3, d4] => { results := [.lit (.bool true)], args := [d1, d2, d3, d4] }
  | _ => none }
def gzipBurstRow : OpenClaim := { program := "ytpjnbhflnbhnoaagreatdoor", sum := "5860bf47ea68bc1ce44d21b2577b6cf3824ded53ff108cb37e978bf7ca0df735", func := "satchel/satchellaw08.GzipBurst", spec := "gzipBurst", inPlace := ["internal/bytealg.IndexByteString", "internal/bytealg.IndexString", "internal/bytealg.IndexByte"], unfollowed := true, recurses := true, named := ["internal/bytealg.MaxLen", "satchel/gzip.turned", "satchel/deflate.order", "unicode/utf8.first", "unicode/utf8.acceptRanges", "satchel/inflate.order"], plainKeys := false, apart := false, laid := [("unicode/utf8.acceptRanges", laid_unicode_utf8_acceptRanges), ("satchel/deflate.order", laid_satchel_deflate_order), ("satchel/inflate.order", laid_satchel_inflate_order), ("satchel/gzip.turned", laid_satchel_gzip_turned), ("unicode/utf8.first", laid_unicode_utf8_first)] }
def GzipBurstSaid : Prop := gzipBurstRow.holds Tryz.pinned (OpenSpec.ofChange gzipBurstSpec)

/-- ITS FALSE NEIGHBOUR: 'it returns false'. Refute it at one input. -/
def gzipBurstWrong : ChangeSpec := { name := "gzipBurst", fn := fun _ => fun
  | [d1, d2, d3, d4] => { results := [.lit (.bool false)], args := [d1, d2, d3, d4] }
  | _ => none }
def GzipBurstWrongFalsely : Prop := gzipBurstRow.holds Tryz.pinned (OpenSpec.ofChange gzipBurstWrong)

/-- 'satchellaw08.GzipBounded': WHATEVER THE INPUT: true; the input reads as it did. -/
def gzipBoundedSpec : ChangeSpec := { name := "gzipBounded", fn := fun _ => fun
  | [d1, d2] => { results := [.lit (.bool true)], args := [d1, d2] }
  | _ => none }
def gzipBoundedRow : OpenClaim := { program := "ytpjnbhflnbhnoaagreatdoor", sum := "5860bf47ea68bc1ce44d21b2577b6cf3824ded53ff108cb37e978bf7ca0df735", func := "satchel/satchellaw08.GzipBounded", spec := "gzipBounded", inPlace := ["internal/bytealg.IndexByteString", "internal/bytealg.IndexString", "internal/bytealg.IndexByte"], unfollowed := true, recurses := true, named := ["internal/bytealg.MaxLen", "satchel/gzip.turned", "satchel/deflate.order", "unicode/utf8.first", "unicode/utf8.acceptRanges", "satchel/inflate.order"], plainKeys := false, apart := false, laid := [("unicode/utf8.acceptRanges", laid_unicode_utf8_acceptRanges), ("satchel/deflate.order", laid_satchel_deflate_order), ("satchel/inflate.order", laid_satchel_inflate_order), ("satchel/gzip.turned", laid_satchel_gzip_turned), ("unicode/utf8.first", laid_unicode_utf8_first)] }
def GzipBoundedSaid : Prop := gzipBoundedRow.holds Tryz.pinned (OpenSpec.ofChange gzipBoundedSpec)

/-- ITS FALSE NEIGHBOUR: 'it returns false'. Refute it at one input. -/
def gzipBoundedWrong : ChangeSpec := { name := "gzipBounded", fn := fun _ => fun
  | [d1, d2] => { results := [.lit (.bool false)], args := [d1, d2] }
  | _ => none }
def GzipBoundedWrongFalsely : Prop := gzipBoundedRow.holds Tryz.pinned (OpenSpec.ofChange gzipBoundedWrong)

/-- 'satchellaw08.GzipOnes': WHATEVER THE INPUT: true; the input reads as it did. -/
def gzipOnesSpec : ChangeSpec := { name := "gzipOnes", fn := fun _ => fun
  | [d] => { results := [.lit (.bool true)], args := [d] }
  | _ => none }
def gzipOnesRow : OpenClaim := { program := "ytpjnbhflnbhnoaagreatdoor", sum := "5860bf47ea68bc1ce44d21b2577b6cf3824ded53ff108cb37e978bf7ca0df735", func := "satchel/satchellaw08.GzipOnes", spec := "gzipOnes", inPlace := ["internal/bytealg.IndexByteString", "internal/bytealg.IndexString", "internal/bytealg.IndexByte"], unfollowed := true, recurses := true, named := ["internal/bytealg.MaxLen", "satchel/gzip.turned", "satchel/deflate.order", "unicode/utf8.first", "unicode/utf8.acceptRanges", "satchel/inflate.order"], plainKeys := false, apart := false, laid := [("unicode/utf8.acceptRanges", laid_unicode_utf8_acceptRanges), ("satchel/deflate.order", laid_satchel_deflate_order), ("satchel/inflate.order", laid_satchel_inflate_order), ("satchel/gzip.turned", laid_satchel_gzip_turned), ("unicode/utf8.first", laid_unicode_utf8_first)] }
def GzipOnesSaid : Prop := gzipOnesRow.holds Tryz.pinned (OpenSpec.ofChange gzipOnesSpec)

/-- ITS FALSE NEIGHBOUR: 'it returns false'. Refute it at one input. -/
def gzipOnesWrong : ChangeSpec := { name := "gzipOnes", fn := fun _ => fun
  | [d] => { results := [.lit (.bool false)], args := [d] }
  | _ => none }
def GzipOnesWrongFalsely : Prop := gzipOnesRow.holds Tryz.pinned (OpenSpec.ofChange gzipOnesWrong)

/- THE SECOND FORM. 'bulk': how many values and letters a reading holds, each counted each time it is reached (what is shared counts as often as it is met; a slice's spare places count too). A statement '..UptoSaid' is the law's where the arguments, and the package variables that the reading takes, are together of bulk at most 1048576: NARROWER than '..Said'. Prove '..Said' where nothing that the law and all that it calls make is longer than what came in: it says more and counts as full. Else prove '..UptoSaid'. A law counts once. -/
mutual
def uptoBulk {H : Type} : DataW H → Nat
  | .lit (.string bytes) => bytes.length + 1
  | .lit _ => 1
  | .nil => 1
  | .ptr d => uptoBulk d + 1
  | .slice elems spare => uptoBulkAll elems + uptoBulkAll spare + 1
  | .agg parts => uptoBulkAll parts + 1
  | .iface _ d => uptoBulk d + 1
  | .map entries => uptoBulkEntries entries + 1
  | .held _ => 1
def uptoBulkAll {H : Type} : List (DataW H) → Nat
  | [] => 0
  | d :: r => uptoBulk d + uptoBulkAll r
def uptoBulkEntries {H : Type} : List (Lit × DataW H) → Nat
  | [] => 0
  | x :: r => uptoBulkEntry x + uptoBulkEntries r
def uptoBulkEntry {H : Type} : Lit × DataW H → Nat
  | (.string bytes, d) => bytes.length + uptoBulk d + 1
  | (_, d) => uptoBulk d + 1
 end
def uptoSmall : (H : Type) → List (DataW H) → Bool := fun _ ds => decide (uptoBulkAll ds ≤ 1048576)
def OpenSpec.upto (s : _root_.Go.ChangeSpec) : _root_.Go.OpenSpec := { _root_.Go.OpenSpec.ofChange s with cond := some uptoSmall }

/-- 'satchellaw08.GzipEncodes', WHERE WHAT IT READS IS OF BULK AT MOST 1048576: true; the input reads as it did. -/
def gzipEncodesUptoRow : OpenClaim := { program := "ytpjnbhflnbhnoaagreatdoor", sum := "5860bf47ea68bc1ce44d21b2577b6cf3824ded53ff108cb37e978bf7ca0df735", func := "satchel/satchellaw08.GzipEncodes", spec := "gzipEncodes", inPlace := ["internal/bytealg.IndexByteString", "internal/bytealg.IndexString"], unfollowed := true, recurses := true, named := ["internal/bytealg.MaxLen", "satchel/gzip.turned", "satchel/deflate.order"], plainKeys := false, apart := false, laid := [("satchel/deflate.order", laid_satchel_deflate_order), ("satchel/gzip.turned", laid_satchel_gzip_turned)], narrowed := true }
def GzipEncodesUptoSaid : Prop := gzipEncodesUptoRow.holds Tryz.pinned (OpenSpec.upto gzipEncodesSpec)

/-- 'satchellaw08.GzipDecodes', WHERE WHAT IT READS IS OF BULK AT MOST 1048576: true; the input reads as it did. -/
def gzipDecodesUptoRow : OpenClaim := { program := "ytpjnbhflnbhnoaagreatdoor", sum := "5860bf47ea68bc1ce44d21b2577b6cf3824ded53ff108cb37e978bf7ca0df735", func := "satchel/satchellaw08.GzipDecodes", spec := "gzipDecodes", inPlace := ["internal/bytealg.IndexByte"], unfollowed := true, recurses := true, named := ["satchel/gzip.turned", "satchel/inflate.order", "unicode/utf8.first", "unicode/utf8.acceptRanges"], plainKeys := false, apart := false, laid := [("unicode/utf8.acceptRanges", laid_unicode_utf8_acceptRanges), ("satchel/inflate.order", laid_satchel_inflate_order), ("satchel/gzip.turned", laid_satchel_gzip_turned), ("unicode/utf8.first", laid_unicode_utf8_first)], narrowed := true }
def GzipDecodesUptoSaid : Prop := gzipDecodesUptoRow.holds Tryz.pinned (OpenSpec.upto gzipDecodesSpec)

/-- 'satchellaw08.GzipBack', WHERE WHAT IT READS IS OF BULK AT MOST 1048576: true; the input reads as it did. -/
def gzipBackUptoRow : OpenClaim := { program := "ytpjnbhflnbhnoaagreatdoor", sum := "5860bf47ea68bc1ce44d21b2577b6cf3824ded53ff108cb37e978bf7ca0df735", func := "satchel/satchellaw08.GzipBack", spec := "gzipBack", inPlace := ["internal/bytealg.IndexByteString", "internal/bytealg.IndexString", "internal/bytealg.IndexByte"], unfollowed := true, recurses := true, named := ["internal/bytealg.MaxLen", "satchel/gzip.turned", "satchel/deflate.order", "unicode/utf8.first", "unicode/utf8.acceptRanges", "satchel/inflate.order"], plainKeys := false, apart := false, laid := [("unicode/utf8.acceptRanges", laid_unicode_utf8_acceptRanges), ("satchel/deflate.order", laid_satchel_deflate_order), ("satchel/inflate.order", laid_satchel_inflate_order), ("satchel/gzip.turned", laid_satchel_gzip_turned), ("unicode/utf8.first", laid_unicode_utf8_first)], narrowed := true }
def GzipBackUptoSaid : Prop := gzipBackUptoRow.holds Tryz.pinned (OpenSpec.upto gzipBackSpec)

/-- 'satchellaw08.GzipBurst', WHERE WHAT IT READS IS OF BULK AT MOST 1048576: true; the input reads as it did. -/
def gzipBurstUptoRow : OpenClaim := { program := "ytpjnbhflnbhnoaagreatdoor", sum := "5860bf47ea68bc1ce44d21b2577b6cf3824ded53ff108cb37e978bf7ca0df735", func := "satchel/satchellaw08.GzipBurst", spec := "gzipBurst", inPlace := ["internal/bytealg.IndexByteString", "internal/bytealg.IndexString", "internal/bytealg.IndexByte"], unfollowed := true, recurses := true, named := ["internal/bytealg.MaxLen", "satchel/gzip.turned", "satchel/deflate.order", "unicode/utf8.first", "unicode/utf8.acceptRanges", "satchel/inflate.order"], plainKeys := false, apart := false, laid := [("unicode/utf8.acceptRanges", laid_unicode_utf8_acceptRanges), ("satchel/deflate.order", laid_satchel_deflate_order), ("satchel/inflate.order", laid_satchel_inflate_order), ("satchel/gzip.turned", laid_satchel_gzip_turned), ("unicode/utf8.first", laid_unicode_utf8_first)], narrowed := true }
def GzipBurstUptoSaid : Prop := gzipBurstUptoRow.holds Tryz.pinned (OpenSpec.upto gzipBurstSpec)

/-- 'satchellaw08.GzipBounded', WHERE WHAT IT READS IS OF BULK AT MOST 1048576: true; the input reads as it did. -/
def gzipBoundedUptoRow : OpenClaim := { program := "ytpjnbhflnbhnoaagreatdoor", sum := "5860bf47ea68bc1ce44d21b2577b6cf3824ded53ff108cb37e978bf7ca0df735", func := "satchel/satchellaw08.GzipBounded", spec := "gzipBounded", inPlace := ["internal/bytealg.IndexByteString", "internal/bytealg.IndexString", "internal/bytealg.IndexByte"], unfollowed := true, recurses := true, named := ["internal/bytealg.MaxLen", "satchel/gzip.turned", "satchel/deflate.order", "unicode/utf8.first", "unicode/utf8.acceptRanges", "satchel/inflate.order"], plainKeys := false, apart := false, laid := [("unicode/utf8.acceptRanges", laid_unicode_utf8_acceptRanges), ("satchel/deflate.order", laid_satchel_deflate_order), ("satchel/inflate.order", laid_satchel_inflate_order), ("satchel/gzip.turned", laid_satchel_gzip_turned), ("unicode/utf8.first", laid_unicode_utf8_first)], narrowed := true }
def GzipBoundedUptoSaid : Prop := gzipBoundedUptoRow.holds Tryz.pinned (OpenSpec.upto gzipBoundedSpec)

/-- 'satchellaw08.GzipOnes', WHERE WHAT IT READS IS OF BULK AT MOST 1048576: true; the input reads as it did. -/
def gzipOnesUptoRow : OpenClaim := { program := "ytpjnbhflnbhnoaagreatdoor", sum := "5860bf47ea68bc1ce44d21b2577b6cf3824ded53ff108cb37e978bf7ca0df735", func := "satchel/satchellaw08.GzipOnes", spec := "gzipOnes", inPlace := ["internal/bytealg.IndexByteString", "internal/bytealg.IndexString", "internal/bytealg.IndexByte"], unfollowed := true, recurses := true, named := ["internal/bytealg.MaxLen", "satchel/gzip.turned", "satchel/deflate.order", "unicode/utf8.first", "unicode/utf8.acceptRanges", "satchel/inflate.order"], plainKeys := false, apart := false, laid := [("unicode/utf8.acceptRanges", laid_unicode_utf8_acceptRanges), ("satchel/deflate.order", laid_satchel_deflate_order), ("satchel/inflate.order", laid_satchel_inflate_order), ("satchel/gzip.turned", laid_satchel_gzip_turned), ("unicode/utf8.first", laid_unicode_utf8_first)], narrowed := true }
def GzipOnesUptoSaid : Prop := gzipOnesUptoRow.holds Tryz.pinned (OpenSpec.upto gzipOnesSpec)

end Rows
end Go.Proofs.YtpjnbhflnbhnoaaGreatDoor
