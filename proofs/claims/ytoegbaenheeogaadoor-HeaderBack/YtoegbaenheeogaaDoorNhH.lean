import Derived.Test.YtoegbaenheeogaaDoorNhG
import Derived.Test.YtoegbaenheeogaaDoorNhA
namespace Go.Proofs.YtoegbaenheeogaaDoor
open Go.RowKit
set_option linter.unusedVariables false
/-! ### Name, HeaderWhole -/
def sl1 : ByteArray := ⟨#[47]⟩
def nmF (h : Hr) : ByteArray := if h.pfx = eS then h.name else h.pfx ++ sl1 ++ h.name
theorem str_beq (a b : ByteArray) : (a.toList == b.toList) = decide (a = b) := by
  rw [ByteArray.toList_eq, ByteArray.toList_eq]
  by_cases h : a = b
  · subst h; simp
  · rw [decide_eq_false h, beq_eq_false_iff_ne]
    intro e
    apply h
    apply ByteArray.ext
    exact Array.toList_inj.1 e
theorem eS_beq (s : ByteArray) : s.toList.isEmpty = decide (s = eS) := by
  have := str_beq s eS
  rw [← this, ByteArray.toList_eq, ByteArray.toList_eq]
  show _ = (s.data.toList == [])
  cases s.data.toList <;> rfl
/-- A name that was cut is whole again. -/
theorem ext_whole (s : ByteArray) (p : Nat) (h : isSl s p) : s.extract 0 p ++ sl1 ++ s.extract (p + 1) s.size = s := by
  have hp := isSl_lt h
  apply ByteArray.ext
  apply Array.toList_inj.1
  have e : s.data.toList = s.data.toList.take p ++ (47 :: s.data.toList.drop (p + 1)) := by
    obtain ⟨hk, e47⟩ := List.getElem?_eq_some_iff.1 h
    rw [← e47, ← List.drop_eq_getElem_cons hk, List.take_append_drop]
  have hsz : s.size = s.data.size := rfl
  simp only [ByteArray.data_append, ByteArray.data_extract, Array.toList_append, Array.toList_extract, List.extract_eq_take_drop, sl1, Nat.sub_zero, List.drop_zero, hsz]
  rw [List.take_of_length_le (l := s.data.toList.drop (p + 1)) (by rw [List.length_drop, Array.length_toList]; omega), List.append_assoc]
  exact e.symm
theorem ext_size (s : ByteArray) (a b : Nat) (h : b ≤ s.size) : (s.extract a b).size = b - a := by
  rw [ByteArray.size_extract]; omega
theorem ext_ne (s : ByteArray) (p : Nat) (h1 : 1 ≤ p) (h2 : p ≤ s.size) : s.extract 0 p ≠ eS := fun e => by
  have := congrArg ByteArray.size e
  rw [ext_size s 0 p h2] at this
  have : p - 0 = 0 := this
  omega
end Go.Proofs.YtoegbaenheeogaaDoor
