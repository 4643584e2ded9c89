import Derived.Test.YtoegbaenheeogaaDoorNhE
import Derived.BigQuiet
namespace Go.Proofs.YtoegbaenheeogaaDoor
open Go.RowKit
set_option linter.unusedVariables false
/-! ### Cut -/
theorem sl_at (s : ByteArray) (q : Nat) (h : q < s.size) : isSl s q ↔ (s[q]'h) = 47 := by
  unfold isSl
  rw [show s.data.toList[q]? = some (s[q]'h) from Lib.data_getElem? s q h]
  simp
theorem lix_succ (s : ByteArray) (m : Nat) : lix s (m + 1) = if isSl s m then (m : Int) else lix s m := rfl
theorem u8_47 (x : UInt8) : ((x.toNat : Int) == 47) = decide (x = 47) := by
  by_cases h : x = 47
  · subst h; rfl
  · rw [decide_eq_false h, beq_eq_false_iff_ne]
    intro e
    apply h
    apply UInt8.toNat_inj.1
    have : (47 : UInt8).toNat = 47 := rfl
    omega
theorem lix_ext (s : ByteArray) (m : Nat) (hm : m ≤ s.size) (k : Nat) (hk : k ≤ m) : lix (s.extract 0 m) k = lix s k := by
  induction k with
  | zero => rfl
  | succ k ih =>
    unfold lix
    have e : isSl (s.extract 0 m) k ↔ isSl s k := by
      unfold isSl
      rw [ByteArray.data_extract, Array.toList_extract, List.extract_eq_take_drop]
      simp only [Nat.sub_zero, List.drop_zero, List.getElem?_take]
      rw [if_pos (by omega)]
    rw [ih (by omega)]
    by_cases h : isSl s k
    · rw [if_pos h, if_pos (e.2 h)]
    · rw [if_neg h, if_neg (fun q => h (e.1 q))]
end Go.Proofs.YtoegbaenheeogaaDoor
