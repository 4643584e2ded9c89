import Derived.Test.YtoegbaenheeogaaNfH
import Derived.Test.YtoegbaenheeogaaXxZ
import Derived.Lib.BytesEntry
import Derived.Lib.MinMax
namespace Go.Proofs.Ytoegbaenheeogaa
open Go.RowKit
set_option linter.unusedVariables false
/-- What Number answers. -/
def numA (b : List By) : Value := if 128 ≤ (b.headD 0).toNat then binA b else octV b
theorem octV_nil : octV [] = .tuple #[.int .i64 0, .int .i64 0] := by
  refine octV_of [] 0 0 ?_ ?_
  · unfold octN; rw [if_pos (by rfl)]; split <;> rfl
  · unfold octE; rw [if_pos (by rfl), if_pos (by show v8 0 [] ≤ mx; rw [v8_nil]; exact Nat.zero_le _)]
def octQ (b : List By) : Value × Value := (.int .i64 (octN b : Nat), .int .i64 (octE b : Nat))
/-! ### Texts -/
def nz (x : By) : Bool := decide (x ≠ 0#8)
/-- The bytes up to the first 0. -/
def txt (b : List By) : List By := b.takeWhile nz
/-- Where the first 0 stands, or -1. -/
def ixz (l : List By) : Int := Lib.indexByte (l.map u8) 0
theorem ixz_cons (x : By) (l : List By) : ixz (x :: l) = if x = 0#8 then 0 else if ixz l = -1 then -1 else ixz l + 1 := by
  unfold ixz
  rw [List.map_cons, Lib.indexByte]
  by_cases h : x = 0#8
  · subst h; rw [if_pos (by decide), if_pos rfl]
  · have : (u8 x == 0) = false := by
      rw [beq_eq_false_iff_ne]
      intro e
      exact h (u8_inj x 0#8 e)
    rw [this, if_neg h]
    simp only [Bool.false_eq_true, ↓reduceIte, beq_iff_eq]
theorem ixz_txt (l : List By) : (ixz l = -1 ∧ txt l = l) ∨ ∃ k : Nat, ixz l = k ∧ k < l.length ∧ txt l = l.take k := by
  induction l with
  | nil => exact .inl ⟨rfl, rfl⟩
  | cons x l ih =>
    rw [ixz_cons]
    by_cases h : x = 0#8
    · right
      refine ⟨0, by rw [if_pos h]; rfl, by simp, ?_⟩
      unfold txt
      rw [List.takeWhile_cons, if_neg (by rw [h]; decide)]; rfl
    · have hx : nz x = true := decide_eq_true h
      have ht : txt (x :: l) = x :: txt l := by unfold txt; rw [List.takeWhile_cons, if_pos hx]
      rw [if_neg h, ht]
      rcases ih with ⟨e1, e2⟩ | ⟨k, e1, e2, e3⟩
      · left; rw [if_pos e1, e2]; exact ⟨rfl, rfl⟩
      · right
        refine ⟨k + 1, ?_, by simp; omega, by rw [e3]; rfl⟩
        rw [if_neg (by omega), e1]; omega
theorem run_ixNil (w : World) (A : Addr) (c : Nat) (cv : Int) : (Extern.BytealgIndexByte.indexByte #[.slice (some A) 0 c, .int .u8 cv]).run Try.prog w = .ok (.int .i64 (-1)) w := by
  have hs := Lib.run_indexByteString (P := Try.prog) .empty cv w
  exact hs
end Go.Proofs.Ytoegbaenheeogaa
