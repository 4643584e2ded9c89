import Derived.Test.YtoplhkpbicgceaaLzS
namespace Go.Proofs.Ytoplhkpbicgceaa
open Go.RowKit
set_option linter.unusedVariables false
/-- A match, as the document's match tells it: back, length, where it ends, why not. -/
def mtc (b : List By) (lo i : Nat) : Nat × Nat × Nat × Nat :=
  match b.drop i with
  | x :: y :: r => if x.toNat + 256 * y.toNat = 0 then (0, 0, i, 30) else match num lo r with
    | none => (0, 0, b.length, 4)
    | some (n, k) => (x.toNat + 256 * y.toNat, n + 4, i + 2 + k, 0)
  | _ => (0, 0, b.length, 4)
def Mtcd (r : Nat × Nat × Nat × Nat) (w : World) (e : Ending) (w' : World) : Prop :=
  e = .returned (.tuple #[.int .i64 r.1, .int .i64 r.2.1, .int .i64 r.2.2.1, .int .i64 r.2.2.2]) ∧ Nw w w'
end Go.Proofs.Ytoplhkpbicgceaa
