import Derived.Test.YtoplhkpbicgceaaLzR
import Derived.Test.YtoplhkpbicgceaaLzE
namespace Go.Proofs.Ytoplhkpbicgceaa
open Go.RowKit
set_option linter.unusedVariables false
/-- A sequence's head, as begin tells it: where Plain begins, where it ends, whether it is numbered. -/
def beg (b : List By) (i : Nat) : Nat × Nat × Bool :=
  match b.drop i with
  | [] => (0, 0, false)
  | tok :: r => match num (tok.toNat / 16) r with
    | none => (b.length, b.length, false)
    | some (n, k) => (i + 1 + k, i + 1 + k + n, true)
def Begd (b : List By) (i : Nat) (w : World) (e : Ending) (w' : World) : Prop :=
  e = .returned (.agg #[.int .i64 i, .int .i64 (beg b i).1, .int .i64 (beg b i).2.1, .bool (beg b i).2.2]) ∧ Nw w w'
theorem In.nw {a : Option Addr} {c : Nat} {b : List By} {w w' : World} (h : In a c b w) (f : Nw w w') : In a c b w' := ⟨h.1, h.2.1, h.2.2.1, fun hb => by
  obtain ⟨g, o, h1, h2⟩ := h.2.2.2 hb
  exact ⟨g, o, h1, h2.nw f⟩⟩
end Go.Proofs.Ytoplhkpbicgceaa
