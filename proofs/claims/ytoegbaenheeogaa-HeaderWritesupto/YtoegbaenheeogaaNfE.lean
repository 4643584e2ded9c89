import Derived.Test.YtoegbaenheeogaaNfD
namespace Go.Proofs.Ytoegbaenheeogaa
open Go.RowKit
set_option linter.unusedVariables false
theorem trR_snoc (l : List By) (x : By) (h : isBz x = false) : trR (l ++ [x]) = l ++ [x] := by
  unfold trR
  rw [List.reverse_append, List.reverse_singleton, List.singleton_append, List.dropWhile_cons, if_neg (by rw [h]; decide), List.reverse_cons, List.reverse_reverse]
theorem take_snoc (b : List By) (m : Nat) (h : m < b.length) : b.take (m + 1) = b.take m ++ [b[m]] := by
  rw [List.take_add_one, List.getElem?_eq_getElem h]; rfl
theorem trR_nil : trR [] = [] := rfl
end Go.Proofs.Ytoegbaenheeogaa
