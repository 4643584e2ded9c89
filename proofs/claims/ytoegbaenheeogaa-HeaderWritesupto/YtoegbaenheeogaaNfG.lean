import Derived.Test.YtoegbaenheeogaaNfF
namespace Go.Proofs.Ytoegbaenheeogaa
open Go.RowKit
set_option linter.unusedVariables false
theorem mx_eq : mx = 9223372036854775807 := by unfold mx; rfl
/-- n * 2^k or d, d below 2^k. -/
theorem i64_or (k : Nat) (n d : Int) (hk : k ≤ 8) (hd : 0 ≤ d) (hd2 : d < 2 ^ k) (h1 : -9223372036854775808 ≤ n * 2 ^ k + d) (h2 : n * 2 ^ k + d ≤ 9223372036854775807) : bits .or .i64 (n * 2 ^ k) d = n * 2 ^ k + d := by
  obtain ⟨D, rfl⟩ := Int.eq_ofNat_of_zero_le hd
  have hp : (2 : Int) ^ k = ((2 ^ k : Nat) : Int) := by norm_cast
  have hp2 : 2 ^ k ≤ 2 ^ 8 := Nat.pow_le_pow_right (by decide) hk
  have hpos : 0 < 2 ^ k := Nat.pow_pos (by decide)
  have hdiv : 2 ^ 64 = 2 ^ k * 2 ^ (64 - k) := by rw [← Nat.pow_add]; congr 1; omega
  show IntKind.i64.wrap ((BitVec.ofInt 64 (n * 2 ^ k) ||| BitVec.ofInt 64 (D : Int)).toNat : Nat) = _
  rw [BitVec.toNat_or, BitVec.toNat_ofInt, BitVec.toNat_ofInt]
  have eD : ((D : Int) % ((2 ^ 64 : Nat) : Int)).toNat = D := by
    rw [hp] at hd2
    omega
  rw [eD]
  have eN : ((n * 2 ^ k) % ((2 ^ 64 : Nat) : Int)).toNat = 2 ^ k * ((n % ((2 ^ (64 - k) : Nat) : Int)).toNat) := by
    rw [hdiv, hp]
    push_cast
    rw [Int.mul_comm n, Int.mul_emod_mul_of_pos _ _ (by rw [hp]; omega)]
    have : 0 ≤ n % (2 : Int) ^ (64 - k) := Int.emod_nonneg _ (by have : (0 : Int) < 2 ^ (64 - k) := Int.pow_pos (by decide); omega)
    obtain ⟨z, hz⟩ := Int.eq_ofNat_of_zero_le this
    rw [hz, hp]
    norm_cast
  rw [eN, nat_join k _ _ (Nat.mul_mod_right _ _) (by rw [hp] at hd2; omega), ← eN, IntKind.wrap_i64]
  clear eN eD hdiv hd2 hp2 hpos hp hd
  generalize n * 2 ^ k = m at *
  have e : (((m % ((2 ^ 64 : Nat) : Int)).toNat + D : Nat) : Int) = m % 18446744073709551616 + (D : Int) := by omega
  rw [e]
  omega
theorem oct_or (N d : Nat) (hN : N ≤ 1152921504606846975) (hd : d < 8) : bits .or .i64 ((N : Int) * 8) (d : Int) = ((8 * N + d : Nat) : Int) := by
  have := i64_or 3 (N : Int) (d : Int) (by omega) (by omega) (by omega) (by omega) (by omega)
  rw [show (2 : Int) ^ 3 = 8 from rfl] at this
  rw [this]; omega
/-- What Octal answers. -/
def octV (b : List By) : Value := .tuple #[.int .i64 (octN b : Nat), .int .i64 (octE b : Nat)]
theorem octV_of (b : List By) (n e : Nat) (h1 : octN b = n) (h2 : octE b = e) : octV b = .tuple #[.int .i64 (n : Nat), .int .i64 (e : Nat)] := by unfold octV; rw [h1, h2]
end Go.Proofs.Ytoegbaenheeogaa
