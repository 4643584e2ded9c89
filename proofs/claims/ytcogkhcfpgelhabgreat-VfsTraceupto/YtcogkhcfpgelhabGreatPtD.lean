import Derived.Test.YtcogkhcfpgelhabGreatPtC
namespace Go.Proofs.YtcogkhcfpgelhabGreat
open Go.RowKit
set_option linter.unusedVariables false
/-- Behind alike beginnings. -/
theorem cmL_drop (l m : List Tx) (k : Nat) (hk : k ≤ l.length) (hk2 : k ≤ m.length) (he : ∀ j, j < k → l[j]? = m[j]?) : cmL l m = cmL (l.drop k) (m.drop k) := by
  induction k generalizing l m with
  | zero => rfl
  | succ k ih =>
    cases l with
    | nil => simp at hk
    | cons a l =>
      cases m with
      | nil => simp at hk2
      | cons b m =>
        have h0 := he 0 (by omega)
        simp only [List.getElem?_cons_zero, Option.some.injEq] at h0
        subst h0
        rw [cmL, if_pos ((cmT_zero a a).2 rfl), List.drop_succ_cons, List.drop_succ_cons]
        exact ih l m (by simpa using hk) (by simpa using hk2) (fun j hj => by have := he (j + 1) (by omega); simpa using this)
theorem cmL_at (l m : List Tx) (k : Nat) (hk : k < l.length) (hk2 : k < m.length) (he : ∀ j, j < k → l[j]? = m[j]?) (hc : cmT l[k] m[k] ≠ 0) : cmL l m = cmT l[k] m[k] := by
  rw [cmL_drop l m k (by omega) (by omega) he, List.drop_eq_getElem_cons hk, List.drop_eq_getElem_cons hk2, cmL, if_neg hc]
end Go.Proofs.YtcogkhcfpgelhabGreat
