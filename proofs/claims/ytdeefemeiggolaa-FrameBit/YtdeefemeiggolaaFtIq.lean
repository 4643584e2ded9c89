import Derived.Test.YtdeefemeiggolaaFtHq
namespace Go.Proofs.Ytdeefemeiggolaa
open Go.RowKit
set_option linter.unusedVariables false
/-- A bit turned round makes another byte. -/
theorem flip_byte (y : By) (j : Nat) (hj : j < 8) : ∃ z : By, bits .xor .u8 (y.toNat : Int) ((2 ^ j : Nat) : Int) = (z.toNat : Int) ∧ y ≠ z := by
  have h2 : 2 ^ j < 256 := by
    have := Nat.pow_lt_pow_right (a := 2) (by decide) hj
    simpa using this
  have hx : y.toNat ^^^ 2 ^ j < 256 := Nat.xor_lt_two_pow (n := 8) y.isLt h2
  refine ⟨BitVec.ofNat 8 (y.toNat ^^^ 2 ^ j), ?_, fun h => ?_⟩
  · rw [u8_xor_nat _ _ y.isLt h2, BitVec.toNat_ofNat, Nat.mod_eq_of_lt hx]
  · have h3 := congrArg BitVec.toNat h
    rw [BitVec.toNat_ofNat, Nat.mod_eq_of_lt hx] at h3
    have h4 := congrArg (fun n => n.testBit j) h3
    simp only [Nat.testBit_xor, Nat.testBit_two_pow_self] at h4
    cases h5 : y.toNat.testBit j <;> rw [h5] at h4 <;> simp at h4
/-- Where the law looks: bit b of len bytes. -/
theorem where_lt (bit len : Nat) (h : 0 < len) : bit % (8 * len) / 8 < len ∧ bit % (8 * len) % 8 < 8 := by
  have h1 := Nat.mod_lt bit (show 0 < 8 * len by omega)
  omega
end Go.Proofs.Ytdeefemeiggolaa
