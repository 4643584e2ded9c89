import Derived.Test.YtcogkhcfpgelhabGreatGnA
import Derived.Test.YtcogkhcfpgelhabGreatPtB
import Derived.Laws.Strings
namespace Go.Proofs.YtcogkhcfpgelhabGreat
open Go.RowKit
set_option linter.unusedVariables false
/-! ### Lists of texts in memory -/
def mk (l : Tx) : ByteArray := ⟨l.toArray⟩
theorem mk_toList (l : Tx) : (mk l).toList = l := by rw [ByteArray.toList_eq]; rfl
theorem mk_data (l : Tx) : (mk l).data.toList = l := rfl
theorem mk_size (l : Tx) : (mk l).size = l.length := by
  show (mk l).data.size = _
  simp [mk]
theorem mk_inj {l m : Tx} : mk l = mk m ↔ l = m := by
  constructor
  · intro h
    have := congrArg (fun s => s.data.toList) h
    exact this
  · rintro rfl; rfl
theorem mk_of (s : ByteArray) : ∃ l, s = mk l := ⟨s.data.toList, by cases s; rfl⟩
theorem mk_eq (l m : Tx) : ((mk l).toList == (mk m).toList) = decide (l = m) := by
  rw [mk_toList, mk_toList]
  by_cases h : l = m
  · subst h; simp
  · rw [decide_eq_false h, beq_eq_false_iff_ne]; exact h
theorem eqT_upto (l m : List Tx) (k : Nat) (h : l.length = m.length) (hk : k ≤ l.length) (he : ∀ j, j < k → l[j]? = m[j]?) (hd : k = l.length) : l = m := by
  apply List.ext_getElem?
  intro i
  by_cases hi : i < k
  · exact he i hi
  · rw [List.getElem?_eq_none (by omega), List.getElem?_eq_none (by omega)]
end Go.Proofs.YtcogkhcfpgelhabGreat
