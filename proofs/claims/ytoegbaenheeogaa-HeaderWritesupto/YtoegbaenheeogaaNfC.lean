import Derived.Test.YtoegbaenheeogaaNfB
import Derived.Test.YtoegbaenheeogaaThA
namespace Go.Proofs.Ytoegbaenheeogaa
open Go.RowKit
set_option linter.unusedVariables false
theorem sl_cons {X : Nat → Prop} {a : Option Addr} {n c : Nat} {x : By} {l : List By} {w : World} (h : Sl X (.slice a n c) (x :: l) w) :
    ∃ g o, a = some ⟨g, o, none⟩ ∧ n = l.length + 1 ∧ n ≤ c ∧ c < 9223372036854775808 ∧ w.cell? ⟨g, o, none⟩ = some (.int .u8 x.toNat) ∧
      (c ≤ 1 → ∀ y, Sl X (.slice y (n - 1) 0) l w) ∧ (1 < c → Sl X (.slice (some ⟨g, o + 1, none⟩) (n - 1) (c - 1)) l w) := by
  rcases h with ⟨_, _, e⟩ | ⟨g, hg, o, c', e, e1, e2, e3⟩
  · cases e
  · injection e with ea en ec
    subst ec
    rw [List.length_cons] at en e1
    have h0 := e3 0 (by simp)
    refine ⟨g, o, ea, en, by omega, e2, h0, fun hc y => .inl ⟨y, by rw [show n - 1 = 0 by omega], ?_⟩, fun hc => .inr ⟨g, hg, o + 1, c - 1, ?_, by omega, by omega, ?_⟩⟩
    · exact List.length_eq_zero_iff.1 (by omega)
    · rw [show n - 1 = l.length by omega]
    · exact e3.drop 1
theorem sl_len {X : Nat → Prop} {a : Option Addr} {n c : Nat} {l : List By} {w : World} (h : Sl X (.slice a n c) l w) : l.length = n ∧ n ≤ c ∧ c < 9223372036854775808 := by
  obtain ⟨a', c', e, q1, q2⟩ := h.form
  generalize hq : l.length = q at e q1
  cases e
  exact ⟨rfl, q1, q2⟩
end Go.Proofs.Ytoegbaenheeogaa
