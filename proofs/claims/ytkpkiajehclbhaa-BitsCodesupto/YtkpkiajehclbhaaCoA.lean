import Derived.Test.YtkpkiajehclbhaaBiA
namespace Go.Proofs.Ytkpkiajehclbhaa
open Go.RowKit
set_option linter.unusedVariables false
/-! ### Bits turned round -/
/-- The lowest n bits, the last one first. -/
def rev : Nat → Nat → Nat
  | 0, _ => 0
  | n + 1, x => (x % 2) * 2 ^ n + rev n (x / 2)
theorem rev_lt (n x : Nat) : rev n x < 2 ^ n := by
  induction n generalizing x with
  | zero => simp [rev]
  | succ n ih =>
    have h1 := ih (x / 2)
    have h2 : x % 2 < 2 := Nat.mod_lt _ (by decide)
    rw [rev, Nat.pow_succ]
    have h3 : (x % 2) * 2 ^ n ≤ 1 * 2 ^ n := Nat.mul_le_mul_right _ (by omega)
    omega
theorem rev_add (n k x : Nat) : rev (n + k) x = rev n x * 2 ^ k + rev k (x / 2 ^ n) := by
  induction n generalizing x with
  | zero => simp [rev]
  | succ n ih =>
    rw [show n + 1 + k = n + k + 1 by omega, rev, ih, rev, Nat.add_mul, Nat.mul_assoc, ← Nat.pow_add, Nat.add_assoc, Nat.div_div_eq_div_mul, Nat.pow_succ, Nat.mul_comm 2]
/-- The highest bits of what was turned are the lowest, turned. -/
theorem rev_div (n m x : Nat) (h : n ≤ m) : rev m x / 2 ^ (m - n) = rev n x := by
  have e := rev_add n (m - n) x
  rw [show n + (m - n) = m by omega] at e
  rw [e, Nat.mul_comm, Nat.mul_add_div (Nat.pow_pos (by decide)), Nat.div_eq_of_lt (rev_lt _ _), Nat.add_zero]
theorem rev_mod (n m x : Nat) (h : n ≤ m) : rev n (x % 2 ^ m) = rev n x := by
  induction n generalizing x m with
  | zero => rfl
  | succ n ih =>
    obtain ⟨k, rfl⟩ : ∃ k, m = k + 1 := ⟨m - 1, by omega⟩
    rw [rev, rev]
    have e1 : x % 2 ^ (k + 1) % 2 = x % 2 := by rw [Nat.pow_succ, Nat.mul_comm, Nat.mod_mul_right_mod]
    have e2 : x % 2 ^ (k + 1) / 2 = x / 2 % 2 ^ k := by rw [Nat.pow_succ, Nat.mul_comm, Nat.mod_mul_right_div_self]
    rw [e1, e2, ih k _ (by omega)]
theorem rev_snoc (n x : Nat) : rev (n + 1) x = rev n x * 2 + x / 2 ^ n % 2 := by
  have := rev_add n 1 x
  rw [this]
  simp [rev]
theorem rev_rev (n x : Nat) : rev n (rev n x) = x % 2 ^ n := by
  induction n generalizing x with
  | zero => simp [rev, Nat.mod_one]
  | succ n ih =>
    rw [rev_snoc n x, rev]
    have h2 : x / 2 ^ n % 2 < 2 := Nat.mod_lt _ (by decide)
    rw [show (rev n x * 2 + x / 2 ^ n % 2) % 2 = x / 2 ^ n % 2 by omega, show (rev n x * 2 + x / 2 ^ n % 2) / 2 = rev n x by omega, ih, Nat.pow_succ, Nat.mod_mul, Nat.mul_comm (x / 2 ^ n % 2)]
    omega
theorem rev_eq (n x c : Nat) (hc : c < 2 ^ n) : rev n x = c ↔ x % 2 ^ n = rev n c := by
  constructor
  · intro h; rw [← h, rev_rev]
  · intro h
    have : rev n (x % 2 ^ n) = rev n (rev n c) := by rw [h]
    rw [rev_rev, Nat.mod_eq_of_lt hc, rev_mod n n x (Nat.le_refl _)] at this
    exact this
theorem rev_test (n x i : Nat) (hi : i < n) : (rev n x).testBit i = x.testBit (n - 1 - i) := by
  induction n generalizing x i with
  | zero => omega
  | succ n ih =>
    rw [rev]
    by_cases h : i = n
    · subst h
      rw [Nat.testBit, Nat.shiftRight_eq_div_pow, Nat.add_comm, Nat.add_mul_div_right _ _ (Nat.pow_pos (by decide)), Nat.div_eq_of_lt (rev_lt _ _), Nat.zero_add, show i + 1 - 1 - i = 0 by omega]
      simp [Nat.testBit_zero]
      rfl
    · have hlt : i < n := by omega
      have e1 : ((x % 2) * 2 ^ n + rev n (x / 2)).testBit i = (rev n (x / 2)).testBit i := by
        have e : (x % 2) * 2 ^ n = 2 ^ n * (x % 2) := Nat.mul_comm _ _
        rw [e, Nat.testBit_two_pow_mul_add _ (rev_lt _ _), if_pos hlt]
      rw [e1, ih _ _ hlt, Nat.testBit_div_two]
      congr 1
      omega
theorem rev_of_test (n x y : Nat) (hy : y < 2 ^ n) (h : ∀ i, i < n → y.testBit i = x.testBit (n - 1 - i)) : y = rev n x := by
  apply Nat.eq_of_testBit_eq
  intro i
  by_cases hi : i < n
  · rw [h i hi, rev_test n x i hi]
  · rw [Nat.testBit_lt_two_pow (Nat.lt_of_lt_of_le hy (Nat.pow_le_pow_right (by decide) (by omega))), Nat.testBit_lt_two_pow (Nat.lt_of_lt_of_le (rev_lt n x) (Nat.pow_le_pow_right (by decide) (by omega)))]
end Go.Proofs.Ytkpkiajehclbhaa
