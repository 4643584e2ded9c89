import Derived.Test.YtoplhkpbicgceaaPtC
namespace Go.Proofs.Ytoplhkpbicgceaa
open Go.RowKit
set_option linter.unusedVariables false
/-- Behind alike beginnings. -/
theorem cmL_drop (l m : List Tx) (k : Nat) (hk : k ≤ l.length) (hk2 : k ≤ m.length) (he : ∀ j, j < k → l[j]? = m[j]?) : cmL l m = cmL (l.drop k) (m.drop k) := by
  induction k generalizing l m with
  | zero => rfl
  | succ k ih =>
    cases l with
    | nil => simp at hk
    | cons a l =>
      cases m with
      | nil => simp at hk2
      | cons b m =>
        have h0 := he 0 (by omega)
        simp only [List.getElem?_cons_zero, Option.some.injEq] at h0
        subst h0
        rw [cmL, if_pos ((cmT_zero a a).2 rfl), List.drop_succ_cons, List.drop_succ_cons]
        exact ih l m (by simpa using hk) (by simpa using hk2) (fun j hj => by have := he (j + 1) (by omega); simpa using this)
theorem cmL_at (l m : List Tx) (k : Nat) (hk : k < l.length) (hk2 : k < m.length) (he : ∀ j, j < k → l[j]? = m[j]?) (hc : cmT l[k] m[k] ≠ 0) : cmL l m = cmT l[k] m[k] := by
  rw [cmL_drop l m k (by omega) (by omega) he, List.drop_eq_getElem_cons hk, List.drop_eq_getElem_cons hk2, cmL, if_neg hc]
/-- The first n of a list. -/
theorem SlR.pre {X : Nat → Prop} {a : Option Addr} {N c : Nat} {l : List Tx} {w : World} (h : SlR RS X (.slice a N c) l w) (n : Nat) (hn : n ≤ l.length) : SlR RS X (.slice a n c) (l.take n) w := by
  rcases h with ⟨a', e, rfl⟩ | ⟨g, o, c', hg, e, h1, h2, h3⟩
  · cases e
    obtain rfl : n = 0 := by simpa using hn
    exact .inl ⟨_, rfl, by simp⟩
  · injection e with e1 e2 e3
    subst e1 e3
    have hl : (l.take n).length = n := by rw [List.length_take]; omega
    refine .inr ⟨g, o, c, hg, by rw [hl], by omega, h2, fun i x j u hx hu => ?_⟩
    have hi : i < n := by
      have := (List.getElem?_eq_some_iff.1 hx).1
      omega
    rw [List.getElem?_take_of_lt hi] at hx
    exact h3 i x j u hx hu
end Go.Proofs.Ytoplhkpbicgceaa
