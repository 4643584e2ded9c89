import Derived.Test.YtegabbfdnpjkkaaRanF
namespace Go.Proofs.Ytegabbfdnpjkkaa
open Go.RowKit
set_option linter.unusedVariables false

theorem clear_zero' (w : World) (ty : TypeId) (b : Option Addr) (k c : Nat) (hk : k = 0) : (Builtin.clear_ #[45] ty #[.slice b k c]).run Try.prog w = .ok (.tuple #[]) w := by
  subst hk; exact clear_zero w ty b c
theorem mid_list (xs ys V : List Rg) (n m i j : Nat) (hV : V.length = m) (hi : i ≤ j) (hj : j ≤ n) (hn : n ≤ xs.length)
    (hg : ∀ k, k < i + m + (n - j) → ys[k]? = if k < i then xs[k]? else if k < i + m then V[k - i]? else xs[j + (k - (i + m))]?) : ys.take (i + m + (n - j)) = xs.take i ++ V ++ (xs.take n).drop j := by
  have l3 : (xs.take i).length = i := by simp; omega
  apply List.ext_getElem?
  intro k
  rw [List.getElem?_take, List.append_assoc, List.getElem?_append, l3, List.getElem?_append, hV]
  simp only [List.getElem?_take, List.getElem?_drop]
  by_cases h3 : k < i + m + (n - j)
  · rw [if_pos h3, hg k h3]
    by_cases h1 : k < i
    · simp only [h1, if_true]
    · by_cases h2 : k < i + m
      · simp only [h1, if_false, if_pos h2, if_pos (show k - i < m by omega)]
      · simp only [h1, h2, if_false, if_neg (show ¬ k - i < m by omega), if_pos (show j + (k - i - m) < n by omega)]
        congr 1; omega
  · rw [if_neg h3, if_neg (by omega), if_neg (by omega), if_neg (by omega)]
theorem midL_length (xs V : List Rg) (n m i j : Nat) (hV : V.length = m) (hi : i ≤ j) (hj : j ≤ n) (hn : n ≤ xs.length) : (xs.take i ++ V ++ (xs.take n).drop j).length = i + m + (n - j) := by
  simp; omega

theorem fit_get (xs V : List Rg) (n m i j : Nat) (l2 : V.length = m) (him : i + m ≤ j) (hj : j < n) (hn : n ≤ xs.length) (k : Nat) (hk : k < i + m + (n - j)) :
    (spl (spl xs i V) (i + m) (((spl xs i V).drop j).take (n - j)))[k]? = if k < i then xs[k]? else if k < i + m then V[k - i]? else xs[j + (k - (i + m))]? := by
  have hl1 := spl_length xs i V (by omega)
  have l4 : (((spl xs i V).drop j).take (n - j)).length = n - j := by simp [hl1]; omega
  rw [get_spl _ _ _ (by rw [l4, hl1]; omega), l4]
  by_cases h1 : k < i
  · simp only [h1, if_true, if_pos (show k < i + m by omega)]
    rw [get_spl _ _ _ (by omega), if_pos h1]
  · by_cases h2 : k < i + m
    · simp only [h1, if_false, if_pos h2]
      rw [get_spl _ _ _ (by omega), if_neg h1, l2, if_pos h2]
    · simp only [h1, h2, if_false, if_pos hk]
      rw [List.getElem?_take, if_pos (by omega), List.getElem?_drop, get_spl _ _ _ (by omega), if_neg (by omega), l2, if_neg (by omega)]

end Go.Proofs.Ytegabbfdnpjkkaa
