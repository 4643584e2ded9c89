import Derived.Test.YtoegbaenheeogaaNfG
namespace Go.Proofs.Ytoegbaenheeogaa
open Go.RowKit
set_option linter.unusedVariables false
theorem and128 : ∀ x : By, bits .and .u8 (x.toNat : Int) 128 = if 128 ≤ x.toNat then 128 else 0 := by decide +kernel
theorem anot128 : ∀ x : By, 128 ≤ x.toNat → bits .andNot .u8 (x.toNat : Int) 128 = (x.toNat : Int) - 128 := by decide +kernel
def binA (b : List By) : Value := .tuple #[.int .i64 (binN b), .int .i64 (binE b : Nat)]
theorem binA_of (b : List By) (n : Int) (e : Nat) (h1 : binN b = n) (h2 : binE b = e) : binA b = .tuple #[.int .i64 n, .int .i64 (e : Nat)] := by unfold binA; rw [h1, h2]
theorem binA_no (b : List By) (h : isB b = false) : binA b = .tuple #[.int .i64 0, .int .i64 120] := binA_of b 0 120 (by unfold binN; rw [h]; rfl) (by unfold binE; rw [h]; rfl)
theorem binA_big (b : List By) (h : isB b = true) (h2 : inI (binV b) = false) : binA b = .tuple #[.int .i64 0, .int .i64 121] := binA_of b 0 121 (by unfold binN; rw [h, h2]; rfl) (by unfold binE; rw [h, h2]; rfl)
theorem binA_ok (b : List By) (h : isB b = true) (h2 : inI (binV b) = true) : binA b = .tuple #[.int .i64 (binV b), .int .i64 0] := binA_of b (binV b) 0 (by unfold binN; rw [h, h2]; rfl) (by unfold binE; rw [h, h2]; rfl)
theorem inI_iff (n : Int) : inI n = true ↔ (-9223372036854775808 ≤ n ∧ n ≤ 9223372036854775807) := by unfold inI; simp
theorem vb_take (n : Int) (l : List By) (I : Nat) (h : I < l.length) : vb n (l.take (I + 1)) = vb n (l.take I) * 256 + (l[I].toNat : Int) := by
  rw [take_snoc l I h, vb_app, vb_cons]; rfl
end Go.Proofs.Ytoegbaenheeogaa
