import Derived.Test.YtegabbfdnpjkkaaBudE
import Derived.Laws.Tables
import Derived.Laws.CopyRow
namespace Go.Proofs.Ytegabbfdnpjkkaa
open Go.RowKit Go.MuLone
set_option linter.unusedVariables false

/-! ### The sums of 256 spenders -/
def zeros : List Int := List.replicate 256 0
def sumCells (zs : List Int) : Array Value := (zs.map (Value.int .i64)).toArray
theorem zero39 : Try.zeroCells39 = sumCells zeros := by kernel_rfl
theorem ones39 : ∀ v ∈ Try.zeroCells39.toList, v.oneCell' = true := by
  rw [zero39]; unfold sumCells; simp only [List.mem_map]; rintro v ⟨x, _, rfl⟩; rfl
theorem store39 (W : World) (b : Nat) (hb : W.heap.size = b) : (storeCells ⟨b, 0, none⟩ Try.zeroCells39.toList).run Try.prog (W.alloc (.cells Try.zeroCells39 39)) = .ok () (W.alloc (.cells Try.zeroCells39 39)) := by
  subst hb
  have h := new_block W (.cells Try.zeroCells39 39)
  rw [run_storeCells_from (P := Try.prog) W.heap.size 39 Try.zeroCells39.toList 0 Try.zeroCells39 _ h (by simp) ones39]
  simp only [List.take_zero, List.nil_append, Array.toArray_toList]
  rw [setRow_self _ _ _ _ _ h]
def SumB (b : Nat) (zs : List Int) (w : World) : Prop := zs.length = 256 ∧ w.heap[b]? = some (.cells (sumCells zs) 39)
theorem SumB.cell {b : Nat} {zs : List Int} {w : World} (h : SumB b zs w) (j : Nat) (hj : j < 256) : w.cell? ⟨b, j, none⟩ = some (.int .i64 (zs[j]?.getD 0)) ∧ w.frozen? ⟨b, j, none⟩ = false := by
  obtain ⟨hl, h⟩ := h
  have e : zs[j]? = some zs[j] := List.getElem?_eq_getElem (by omega)
  constructor
  · simp [World.cell?, h, sumCells, e]
  · simp [World.frozen?, h]
theorem SumB.set {b : Nat} {zs : List Int} {w : World} (h : SumB b zs w) (j : Nat) (v : Int) : SumB b (zs.set j v) (w.setCell ⟨b, j, none⟩ (.int .i64 v)) := by
  refine ⟨by simp [h.1], ?_⟩
  rw [heap_set_same (.int .i64 v) h.2]
  simp [sumCells, List.map_set]
theorem SumB.kept {b k : Nat} {zs : List Int} {w w' : World} (h : SumB b zs w) (o : Only k w w') (hk : b ≠ k) : SumB b zs w' := ⟨h.1, (o.block b hk).trans h.2⟩

theorem sum_set (zs : List Int) (j : Nat) (n : Int) (hj : j < zs.length) : (zs.set j (zs[j]?.getD 0 + n)).sum = zs.sum + n := by
  induction zs generalizing j with
  | nil => simp at hj
  | cons a r ih =>
    cases j with
    | zero => simp; omega
    | succ j => simp only [List.set_cons_succ, List.sum_cons, List.getElem?_cons_succ]; rw [ih j (by simpa using hj)]; omega
theorem get_nonneg (zs : List Int) (h : ∀ x ∈ zs, 0 ≤ x) (j : Nat) : 0 ≤ zs[j]?.getD 0 := by
  by_cases hj : j < zs.length
  · rw [List.getElem?_eq_getElem hj]; exact h _ (List.getElem_mem hj)
  · rw [List.getElem?_eq_none (by omega)]; simp
theorem set_nonneg (zs : List Int) (h : ∀ x ∈ zs, 0 ≤ x) (j : Nat) (v : Int) (hv : 0 ≤ v) : ∀ x ∈ zs.set j v, 0 ≤ x := by
  intro x hx
  rcases List.mem_or_eq_of_mem_set hx with h1 | rfl
  · exact h x h1
  · exact hv
theorem sum_nonneg (zs : List Int) (h : ∀ x ∈ zs, 0 ≤ x) : 0 ≤ zs.sum := by
  induction zs with
  | nil => simp
  | cons a r ih => simp only [List.sum_cons]; have := h a (by simp); have := ih (fun x hx => h x (by simp [hx])); omega
theorem sum_take (zs : List Int) (h : ∀ x ∈ zs, 0 ≤ x) (i : Nat) (hi : i < zs.length) : (zs.take (i + 1)).sum = (zs.take i).sum + zs[i]?.getD 0 ∧ (zs.take i).sum + zs[i]?.getD 0 ≤ zs.sum ∧ 0 ≤ (zs.take i).sum := by
  have e1 : (zs.take (i + 1)).sum = (zs.take i).sum + zs[i]?.getD 0 := by
    rw [List.take_succ_eq_append_getElem hi, List.sum_append, List.getElem?_eq_getElem hi]; simp
  have e2 : (zs.take (i + 1)).sum + (zs.drop (i + 1)).sum = zs.sum := by rw [← List.sum_append, List.take_append_drop]
  have := sum_nonneg (zs.drop (i + 1)) (fun x hx => h x (List.mem_of_mem_drop hx))
  exact ⟨e1, by omega, sum_nonneg _ (fun x hx => h x (List.mem_of_mem_take hx))⟩
theorem get_le_sum (zs : List Int) (h : ∀ x ∈ zs, 0 ≤ x) (j : Nat) : zs[j]?.getD 0 ≤ zs.sum := by
  by_cases hj : j < zs.length
  · obtain ⟨_, h2, h3⟩ := sum_take zs h j hj; omega
  · rw [List.getElem?_eq_none (by omega)]; exact sum_nonneg zs h

/-- What holds at the head of the first loop. -/
def ManI (T : Int) (w : World) (S L : Int) (zs : List Int) (wr : World) : Prop :=
  0 ≤ S ∧ S ≤ T ∧ BudB w.heap.size T S wr ∧ SumB (w.heap.size + 1) zs wr ∧ (∀ x ∈ zs, 0 ≤ x) ∧ zs.sum = S ∧ (L = -1 ∨ 0 ≤ L ∧ T - S < L) ∧ L ≤ 9223372036854775807 ∧ Below w.heap.size w wr
end Go.Proofs.Ytegabbfdnpjkkaa
