import Derived.Test.YtfmghmidklpdaabPvC
import Derived.Test.YtfmghmidklpdaabPuE
namespace Go.Proofs.Ytfmghmidklpdaab
open Go.RowKit
set_option linter.unusedVariables false
theorem ow_len {g : Nat} {a : Option Addr} {n c : Nat} {l : List Tx} {V : World} (h : OwR RS g (.slice a n c) l V) : l.length = n ∧ n ≤ c ∧ c < 9223372036854775808 := by
  obtain ⟨c', e, q1, q2⟩ := h.form
  generalize hq : l.length = q at e q1
  cases e
  exact ⟨rfl, q1, q2⟩
/-- The document's loop over the pieces of a name. -/
theorem take_all {α : Type} (ps : List α) (I : Nat) (h : ps.length ≤ I) : ps.take I = ps := List.take_of_length_le h
end Go.Proofs.Ytfmghmidklpdaab
