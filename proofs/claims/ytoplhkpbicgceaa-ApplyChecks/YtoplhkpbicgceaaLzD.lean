import Derived.Test.YtoplhkpbicgceaaLzC
import Derived.Handy
namespace Go.Proofs.Ytoplhkpbicgceaa
open Go.RowKit
set_option linter.unusedVariables false

theorem Fr.frozen {X : Nat → Prop} {w w' : World} (h : Fr X w w') {p : Addr} (hp : p.block < w.heap.size) (hx : ¬ X p.block) : w'.frozen? p = w.frozen? p := by
  have := h.block p.block hp hx
  obtain ⟨b, o, s⟩ := p
  simp only [World.frozen?, this]
theorem more_at {b : List By} {i : Nat} (h : i < b.length) : more (b.drop i) = if b[i].toNat = 255 then (match more (b.drop (i + 1)) with | none => none | some (n, k) => some (n + 255, k + 1)) else some (b[i].toNat, 1) := by
  rw [List.drop_eq_getElem_cons h]; rfl
/-- How the loop of number stands. -/
def NumI (b : List By) (at' : Nat) (r : Option (Nat × Nat)) (go : Bool) (i n : Nat) : Prop :=
  n ≤ 15 + 255 * (i - at') ∧ at' ≤ i ∧ match go with
    | true => r = (match more (b.drop i) with | none => none | some (m, k) => some (m + n, k + (i - at')))
    | false => r = some (n, i - at')
end Go.Proofs.Ytoplhkpbicgceaa
