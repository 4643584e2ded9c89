import Derived.Test.YtoegbaenheeogaaNfP
import Derived.ChangeKeysEq
namespace Go.Proofs.Ytoegbaenheeogaa
open Go.RowKit
set_option linter.unusedVariables false
/-! ### Records are compared -/
theorem cellsOne : Try.prog.cellsOf 5 = 1 := by kernel_rfl
theorem part_rc (b : List By) (I : Nat) (h : I < b.length) (w : World) : (part 5 (rc b) (I * 1)).run Try.prog w = .ok (.int .u8 b[I].toNat) w := by
  have := rc_at b I h
  have ha : (isAgg 5).run Try.prog w = .ok false w := by
    unfold isAgg
    rw [Sem.run_bind, run_underlying Try.underlying5 w]
    rfl
  simp [part, Nat.mul_one, ha, this]
theorem eqItems_rc (d : Nat) (a b : List By) (w : World) (is : List Nat) (h : ∀ i ∈ is, i < a.length ∧ i < b.length) :
    (Op.eqItems (d + 1) 5 1 (rc a) (rc b) is).run Try.prog w = .ok (is.all (fun i => a.getD i 0 == b.getD i 0)) w := by
  induction is with
  | nil => simp [Op.eqItems]
  | cons i is ih =>
    obtain ⟨h1, h2⟩ := h i (by simp)
    have e1 : a.getD i 0 = a[i] := by rw [List.getD_eq_getElem?_getD, List.getElem?_eq_getElem h1]; rfl
    have e2 : b.getD i 0 = b[i] := by rw [List.getD_eq_getElem?_getD, List.getElem?_eq_getElem h2]; rfl
    have ih' := ih (fun j hj => h j (by simp [hj]))
    have hq := run_equalIn_int w d 5 .u8 .u8 (a[i].toNat : Int) (b[i].toNat : Int) Try.underlying5
    have hbe : ((a[i].toNat : Int) == (b[i].toNat : Int)) = (a[i] == b[i]) := by
      rw [Bool.eq_iff_iff, beq_iff_eq, beq_iff_eq]
      constructor
      · intro e; exact BitVec.eq_of_toNat_eq (by omega)
      · intro e; rw [e]
    rw [hbe] at hq
    simp only [Op.eqItems, Sem.run_bind, part_rc a i h1 w, part_rc b i h2 w, Result.andThen_ok, hq, List.all_cons, e1, e2]
    cases hc : (a[i] == b[i]) with
    | true => simp only [Bool.not_true, Bool.false_eq_true, ↓reduceIte, ih', Bool.true_and]
    | false => simp
theorem all_range (a b : List By) (n : Nat) (h1 : a.length = n) (h2 : b.length = n) : (List.range n).all (fun i => a.getD i 0 == b.getD i 0) = decide (a = b) := by
  rw [Bool.eq_iff_iff, decide_eq_true_iff, List.all_eq_true]
  constructor
  · intro h
    apply List.ext_getElem?
    intro i
    by_cases hi : i < n
    · have := h i (List.mem_range.2 hi)
      rw [beq_iff_eq, List.getD_eq_getElem?_getD, List.getD_eq_getElem?_getD, List.getElem?_eq_getElem (by omega), List.getElem?_eq_getElem (by omega)] at this
      rw [List.getElem?_eq_getElem (by omega), List.getElem?_eq_getElem (by omega)]
      exact congrArg some this
    · rw [List.getElem?_eq_none (by omega), List.getElem?_eq_none (by omega)]
  · rintro rfl i _
    simp
theorem eql_rec (a b : List By) (h1 : a.length = 512) (h2 : b.length = 512) (w : World) : (Op.equalIn 10000 24 (.agg (rc a)) (.agg (rc b))).run Try.prog w = .ok (decide (a = b)) w := by
  obtain ⟨i, hi, hz, hsz, hby⟩ := infoB
  have e := run_equalIn_array (P := Try.prog) w 9999 (t := 24) (e := 5) (rc a) (rc b) Try.underlying24 hi
  rw [cellsOne, eqItems_rc 9998 a b w _ (fun i hi => by rw [h1, h2]; have := List.mem_range.1 hi; exact ⟨this, this⟩), all_range a b 512 h1 h2] at e
  exact e
theorem zero_heap (w : World) (o : Obj) : (w.alloc o).heap[w.heap.size]? = some o := newHeap w o
end Go.Proofs.Ytoegbaenheeogaa
