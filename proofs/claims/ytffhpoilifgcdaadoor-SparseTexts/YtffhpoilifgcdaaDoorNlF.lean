import Derived.Test.YtffhpoilifgcdaaDoorNlE
import Derived.Laws.EntriesVeiled
namespace Go.Proofs.YtffhpoilifgcdaaDoor
open Go.RowKit
set_option linter.unusedVariables false
/-- A list of ranges that a call made. -/
def NewG (w : World) (v : Value) (l : List Rg) (V : World) : Prop := ∃ og, OgR RG og v l V ∧ ∀ g, og = some g → w.heap.size ≤ g
theorem NewG.nw {w : World} {v : Value} {l : List Rg} {V V' : World} (h : NewG w v l V) (f : Nw V V') : NewG w v l V' := by
  obtain ⟨og, h1, h2⟩ := h
  exact ⟨og, h1.nw f, h2⟩
theorem NewG.slr {w : World} {v : Value} {l : List Rg} {V : World} (h : NewG w v l V) : SlR RG (fun _ => False) v l V := by
  obtain ⟨og, h1, h2⟩ := h
  exact (h1.slr rgOk).anyG
/-- What Find answers. -/
def FdA (w : World) (b : List By) (n : Nat) (e : Ending) (V : World) : Prop := ∃ a m c l, e = .returned (.slice a m c) ∧ Hid (Nw w V ∧ Fnd b n l ∧ l.length = m ∧ NewG w (.slice a m c) (rgL l) V)
end Go.Proofs.YtffhpoilifgcdaaDoor
