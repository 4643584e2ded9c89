import Derived.Test.YtfjjgjkgicabjaaPuD
namespace Go.Proofs.Ytfjjgjkgicabjaa
open Go.RowKit
set_option linter.unusedVariables false
theorem stays_dec (p : Tx) : stays p = (decide (p = []) || decide (p = [46])) := by
  unfold stays
  by_cases a : p = []
  · subst a; decide
  · by_cases b : p = [46]
    · subst b; decide
    · rw [decide_eq_false a, decide_eq_false b, beq_eq_false_iff_ne.2 a, beq_eq_false_iff_ne.2 b]
end Go.Proofs.Ytfjjgjkgicabjaa
