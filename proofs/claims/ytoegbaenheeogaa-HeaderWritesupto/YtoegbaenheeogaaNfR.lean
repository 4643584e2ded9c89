import Derived.Test.YtoegbaenheeogaaNfQ
namespace Go.Proofs.Ytoegbaenheeogaa
open Go.RowKit
set_option linter.unusedVariables false
/-- A field that was written, as slice. -/
theorem put_sl {E : Nat} {L : List By} {w w' : World} {a : Option Addr} {m c : Nat} (h : (E ≠ 0 ∧ a = none ∧ m = 0 ∧ c = 0) ∨ (E = 0 ∧ ∃ g, w.heap.size ≤ g ∧ Ow g (.slice a m c) L w')) (hE : E = 0) : ∃ g, a = some ⟨g, 0, none⟩ ∧ Ow g (.slice (some ⟨g, 0, none⟩) m c) L w' ∧ L.length = m ∧ m ≤ c ∧ c < 9223372036854775808 := by
  rcases h with ⟨h, _⟩ | ⟨_, g, _, hO⟩
  · exact absurd hE h
  · have hO' := hO
    obtain ⟨xs, e, h2, h3, h4, h5⟩ := hO
    injection e with ea en ec
    subst ea
    exact ⟨g, rfl, hO', by omega, by omega, by omega⟩
theorem headD_zero (l : List By) (h : 0 < l.length) : l.headD 0 = l[0] := by
  cases l with
  | nil => simp at h
  | cons x l => rfl
namespace fieldBack
end fieldBack
end Go.Proofs.Ytoegbaenheeogaa
