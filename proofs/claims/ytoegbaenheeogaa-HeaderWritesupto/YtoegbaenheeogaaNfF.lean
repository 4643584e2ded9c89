import Derived.Test.YtoegbaenheeogaaNfE
namespace Go.Proofs.Ytoegbaenheeogaa
open Go.RowKit
set_option linter.unusedVariables false
theorem bz_cases (p : Bool) : p = true ∨ p = false := by cases p <;> simp
theorem sl_take {X : Nat → Prop} {a : Option Addr} {n c : Nat} {l : List By} {w : World} (h : Sl X (.slice a n c) l w) (M : Nat) (hM : M ≤ n) : Sl X (.slice a M c) (l.take M) w := by
  rcases h with ⟨a', e, rfl⟩ | ⟨g, hg, o, c', e, e1, e2, e3⟩
  · cases e
    obtain rfl : M = 0 := by omega
    exact .inl ⟨a, rfl, rfl⟩
  · injection e with ea en ec
    subst ec
    refine .inr ⟨g, hg, o, c, ?_, ?_, e2, e3.take M⟩
    · rw [List.length_take, ea, Nat.min_eq_left (by omega)]
    · rw [List.length_take]; omega
end Go.Proofs.Ytoegbaenheeogaa
