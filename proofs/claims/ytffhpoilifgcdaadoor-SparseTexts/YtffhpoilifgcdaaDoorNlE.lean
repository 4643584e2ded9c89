import Derived.Test.YtffhpoilifgcdaaDoorNlD
namespace Go.Proofs.YtffhpoilifgcdaaDoor
open Go.RowKit
set_option linter.unusedVariables false
theorem slx_len {X : Nat → Prop} {a : Option Addr} {n c : Nat} {l : List By} {w : World} (h : Sl X (.slice a n c) l w) : l.length = n ∧ n ≤ c ∧ c < 9223372036854775808 := by
  obtain ⟨a', c', e, q1, q2⟩ := h.form
  injection e with e1 e2 e3
  omega
theorem slx_at {X : Nat → Prop} {a : Option Addr} {n c : Nat} {l : List By} {w : World} (h : Sl X (.slice a n c) l w) (i : Nat) (hi : i < l.length) : ∃ g o, a = some ⟨g, o, none⟩ ∧ w.cell? ⟨g, o + i, none⟩ = some (.int .u8 l[i].toNat) := by
  rcases h with ⟨_, _, rfl⟩ | ⟨g, _, o, c', e, _, _, h⟩
  · simp at hi
  · injection e with e1 _ _
    exact ⟨g, o, e1, h i hi⟩
theorem by_ne {x : By} (h : x ≠ 0#8) : ¬ ((x.toNat : Int) = 0) := by
  intro e
  apply h
  apply BitVec.eq_of_toNat_eq
  have : (x.toNat : Int) = 0 := e
  simp
  omega
end Go.Proofs.YtffhpoilifgcdaaDoor
