import Derived.Test.YtlfcgldbgejfbaaXxW
import Derived.Test.YtlfcgldbgejfbaaXxV
import Derived.Test.YtlfcgldbgejfbaaXxZ
import Derived.Lib.AppendZeros
import Derived.Deep.RegionWith
namespace Go.Proofs.Ytlfcgldbgejfbaa
open Go.RowKit
set_option linter.unusedVariables false
theorem xor_byte (a k : Int) : ∃ z : By, bits .xor .u8 a k = (z.toNat : Int) := by
  refine ⟨BitVec.ofInt 8 a ^^^ BitVec.ofInt 8 k, ?_⟩
  show IntKind.u8.wrap (((BitVec.ofInt 8 a ^^^ BitVec.ofInt 8 k : BitVec 8).toNat : Nat) : Int) = _
  rw [IntKind.wrap_u8]
  have := (BitVec.ofInt 8 a ^^^ BitVec.ofInt 8 k).isLt
  exact Int.emod_eq_of_lt (by omega) (by omega)
/-- A byte of one's own, written over. -/
theorem Ow.put {g : Nat} {v : Value} {l : List By} {w : World} (h : Ow g v l w) (j : Nat) (hj : j < l.length) (z : By) (k : Int) (hk : k = z.toNat) : Ow g v (l.set j z) (w.setCell ⟨g, j, none⟩ (.int .u8 k)) := by
  obtain ⟨xs, h1, h2, h3, h4, h5⟩ := h
  refine ⟨xs.set j z, by rw [h1]; simp, ?_, by simp; exact h3, by simp; exact h4, h5.set j z k hk⟩
  rw [List.length_set, List.take_set, h2]
theorem Ow.at {g : Nat} {v : Value} {l : List By} {w : World} (h : Ow g v l w) (j : Nat) (hj : j < l.length) : w.cell? ⟨g, j, none⟩ = some (.int .u8 l[j].toNat) ∧ w.frozen? ⟨g, j, none⟩ = false := by
  obtain ⟨xs, h1, h2, h3, h4, h5⟩ := h
  have : xs[j]? = some l[j] := by
    have e : (xs.take l.length)[j]? = l[j]? := by rw [h2]
    rw [List.getElem?_take, if_pos hj, List.getElem?_eq_getElem hj] at e
    exact e
  exact h5.cell j _ this
/-- Two texts that differ at most in some places n .. n + k - 1. -/
def Near (n k : Nat) (l m : List By) : Prop := ∃ A p p' C, A.length = n ∧ p.length = k ∧ p'.length = k ∧ l = A ++ p ++ C ∧ m = A ++ p' ++ C
theorem Near.refl (n k : Nat) (l : List By) (h : n + k ≤ l.length) : Near n k l l :=
  ⟨l.take n, (l.drop n).take k, (l.drop n).take k, l.drop (n + k), by simp; omega, by simp; omega, by simp; omega, by rw [List.append_assoc, ← List.drop_drop, List.take_append_drop, List.take_append_drop], by rw [List.append_assoc, ← List.drop_drop, List.take_append_drop, List.take_append_drop]⟩
theorem Near.put {n k : Nat} {l m : List By} (h : Near n k l m) (i : Nat) (hi : i < k) (z : By) : Near n k l (m.set (n + i) z) := by
  obtain ⟨A, p, p', C, h1, h2, h3, h4, h5⟩ := h
  refine ⟨A, p, p'.set i z, C, h1, h2, by simp; exact h3, h4, ?_⟩
  rw [h5, List.append_assoc, List.append_assoc, List.set_append_right _ _ (by omega), h1, Nat.add_sub_cancel_left, List.set_append_left _ _ (by omega)]
theorem Near.length {n k : Nat} {l m : List By} (h : Near n k l m) : m.length = l.length := by
  obtain ⟨A, p, p', C, h1, h2, h3, h4, h5⟩ := h
  rw [h4, h5]; simp [h2, h3]
theorem near32 {n : Nat} {l m : List By} (h : Near n 4 l m) (hn : n % 4 = 0) (s : BitVec 32) : s32 s m = s32 s l ↔ m = l := by
  obtain ⟨A, p, p', C, h1, h2, h3, rfl, rfl⟩ := h
  constructor
  · intro e
    by_cases hp : p' = p
    · rw [hp]
    · exact absurd e (s32_word s A p' p C (by omega) h3 h2 hp)
  · intro e; rw [e]
theorem near32b {n : Nat} {l m : List By} (h : Near n 1 l m) (hn : l.length / 4 * 4 ≤ n) (s : BitVec 32) : s32 s m = s32 s l ↔ m = l := by
  have hlen := h.length
  obtain ⟨A, p, p', C, h1, h2, h3, rfl, rfl⟩ := h
  constructor
  · intro e
    by_cases hp : p' = p
    · rw [hp]
    · exact absurd e (s32_byte s A p' p C h3 h2 (by rw [hlen]; omega) hp)
  · intro e; rw [e]
theorem near64 {n : Nat} {l m : List By} (h : Near n 8 l m) (hn : n % 8 = 0) (hq : l.length / 32 * 32 ≤ n) (s : BitVec 64) : s64 s m = s64 s l ↔ m = l := by
  have hlen := h.length
  obtain ⟨A, p, p', C, h1, h2, h3, rfl, rfl⟩ := h
  constructor
  · intro e
    by_cases hp : p' = p
    · rw [hp]
    · exact absurd e (s64_word s A p' p C h3 h2 (by omega) (by rw [hlen]; omega) hp)
  · intro e; rw [e]
theorem near64b {n : Nat} {l m : List By} (h : Near n 1 l m) (hn : l.length / 4 * 4 ≤ n) (s : BitVec 64) : s64 s m = s64 s l ↔ m = l := by
  have hlen := h.length
  obtain ⟨A, p, p', C, h1, h2, h3, rfl, rfl⟩ := h
  constructor
  · intro e
    by_cases hp : p' = p
    · rw [hp]
    · exact absurd e (s64_byte s A p' p C h3 h2 (by rw [hlen]; omega) hp)
  · intro e; rw [e]
theorem strs_eq (m l : List By) : ((str m).toList == (str l).toList) = decide (m = l) := by
  rw [Bool.eq_iff_iff]
  simp only [beq_iff_eq, decide_eq_true_eq]
  rw [ByteArray.toList_eq, ByteArray.toList_eq]
  constructor
  · intro e
    exact map_inj (by simpa [str] using e)
  · intro e; rw [e]
end Go.Proofs.Ytlfcgldbgejfbaa
