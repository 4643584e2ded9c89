import Derived.Test.YtkpkiajehclbhaaLzZ
namespace Go.Proofs.Ytkpkiajehclbhaa
open Go.RowKit
set_option linter.unusedVariables false
/-! ### Bytes and bits as numbers -/
/-- A number, lowest byte first. -/
def le : List By → Nat
  | [] => 0
  | b :: r => b.toNat + 256 * le r
/-- The lowest bytes of a number. -/
def lows (n : Nat) : Nat → List By
  | 0 => []
  | k + 1 => BitVec.ofNat 8 n :: lows (n / 256) k
theorem lows_length (n k : Nat) : (lows n k).length = k := by
  induction k generalizing n with
  | zero => rfl
  | succ k ih => simp [lows, ih]
theorem le_lt (l : List By) : le l < 256 ^ l.length := by
  induction l with
  | nil => simp [le]
  | cons b r ih =>
    have := b.isLt
    simp only [le, List.length_cons, Nat.pow_succ]
    omega
theorem le_lows (n k : Nat) : le (lows n k) = n % 256 ^ k := by
  induction k generalizing n with
  | zero => simp [lows, le, Nat.mod_one]
  | succ k ih =>
    simp only [lows, le, BitVec.toNat_ofNat, ih]
    rw [show 256 ^ (k + 1) = 256 * 256 ^ k by rw [Nat.pow_succ, Nat.mul_comm], Nat.mod_mul]
theorem le_inj : ∀ (a b : List By), a.length = b.length → le a = le b → a = b
  | [], [], _, _ => rfl
  | x :: r, y :: s, h, e => by
    have := x.isLt
    have := y.isLt
    simp only [le] at e
    have h1 : x = y := BitVec.eq_of_toNat_eq (by omega)
    have h2 := le_inj r s (by simpa using h) (by omega)
    rw [h1, h2]
theorem lows_le (l : List By) : lows (le l) l.length = l :=
  le_inj _ _ (lows_length _ _) (by rw [le_lows, Nat.mod_eq_of_lt (le_lt l)])
theorem le_append (a b : List By) : le (a ++ b) = le a + 256 ^ a.length * le b := by
  induction a with
  | nil => simp [le]
  | cons x r ih => simp only [List.cons_append, le, ih, List.length_cons, Nat.pow_succ, Nat.mul_add]; rw [Nat.mul_comm (256 ^ _) 256, Nat.mul_assoc]; omega
theorem le_take (l : List By) (k : Nat) : le (l.take k) = le l % 256 ^ k := by
  by_cases h : k ≤ l.length
  · have h1 := le_append (l.take k) (l.drop k)
    rw [List.take_append_drop] at h1
    have h2 := le_lt (l.take k)
    rw [List.length_take, Nat.min_eq_left h] at h1 h2
    rw [h1, Nat.add_mul_mod_self_left, Nat.mod_eq_of_lt h2]
  · rw [List.take_of_length_le (by omega), Nat.mod_eq_of_lt (Nat.lt_of_lt_of_le (le_lt l) (Nat.pow_le_pow_right (by decide) (by omega)))]
theorem le_drop (l : List By) (k : Nat) : le (l.drop k) = le l / 256 ^ k := by
  by_cases h : k ≤ l.length
  · have h1 := le_append (l.take k) (l.drop k)
    rw [List.take_append_drop] at h1
    have h2 := le_lt (l.take k)
    rw [List.length_take, Nat.min_eq_left h] at h1 h2
    rw [h1, Nat.add_mul_div_left _ _ (Nat.pow_pos (by decide)), Nat.div_eq_of_lt h2, Nat.zero_add]
  · rw [List.drop_eq_nil_of_le (by omega), Nat.div_eq_of_lt (Nat.lt_of_lt_of_le (le_lt l) (Nat.pow_le_pow_right (by decide) (by omega)))]; rfl
theorem le_at (l : List By) (i : Nat) (h : i < l.length) : l[i].toNat = le l / 256 ^ i % 256 := by
  rw [← le_drop, List.drop_eq_getElem_cons h, le]
  have := (l[i]).isLt
  omega
theorem lows_succ (v n : Nat) : lows v (n + 1) = lows v n ++ [BitVec.ofNat 8 (v / 256 ^ n)] := by
  induction n generalizing v with
  | zero => simp [lows]
  | succ n ih =>
    rw [lows, ih, lows, List.cons_append, Nat.div_div_eq_div_mul, Nat.pow_succ, Nat.mul_comm 256]
theorem pow256 (k : Nat) : 256 ^ k = 2 ^ (8 * k) := by rw [Nat.pow_mul]
/-- The lowest bits of a number, a byte each. -/
def bl (v : Nat) : Nat → List By
  | 0 => []
  | k + 1 => BitVec.ofNat 8 (v % 2) :: bl (v / 2) k
theorem bl_length (v n : Nat) : (bl v n).length = n := by
  induction n generalizing v with
  | zero => rfl
  | succ n ih => simp [bl, ih]
theorem bl_succ (v n : Nat) : bl v (n + 1) = bl v n ++ [BitVec.ofNat 8 (v / 2 ^ n % 2)] := by
  induction n generalizing v with
  | zero => simp [bl]
  | succ n ih =>
    rw [bl, ih, bl, List.cons_append, Nat.div_div_eq_div_mul, Nat.pow_succ, Nat.mul_comm 2]
theorem bl_drop (v n k : Nat) : (bl v n).drop k = bl (v / 2 ^ k) (n - k) := by
  induction k generalizing v n with
  | zero => simp
  | succ k ih =>
    cases n with
    | zero => simp [bl]
    | succ n => rw [bl, List.drop_succ_cons, ih, Nat.div_div_eq_div_mul, Nat.pow_succ, Nat.mul_comm 2]; congr 1; omega
theorem bl_take (v n k : Nat) (h : k ≤ n) : (bl v n).take k = bl v k := by
  induction k generalizing v n with
  | zero => simp [bl]
  | succ k ih =>
    cases n with
    | zero => omega
    | succ n => rw [bl, List.take_succ_cons, ih _ _ (by omega), bl]
theorem bl_at (v n i : Nat) (h : i < n) : (bl v n)[i]? = some (BitVec.ofNat 8 (v / 2 ^ i % 2)) := by
  have h1 : (bl v n).drop i = _ := bl_drop v n i
  obtain ⟨m, hm⟩ : ∃ m, n - i = m + 1 := ⟨n - i - 1, by omega⟩
  rw [hm, bl] at h1
  have : ((bl v n).drop i)[0]? = some (BitVec.ofNat 8 (v / 2 ^ i % 2)) := by rw [h1]; rfl
  rw [List.getElem?_drop] at this
  exact this
theorem bl_mod (v n m : Nat) (h : n ≤ m) : bl (v % 2 ^ m) n = bl v n := by
  apply List.ext_getElem?
  intro i
  by_cases hi : i < n
  · rw [bl_at _ _ _ hi, bl_at _ _ _ hi]
    congr 2
    have e : 2 ^ m = 2 ^ i * (2 * 2 ^ (m - i - 1)) := by rw [← Nat.pow_succ', ← Nat.pow_add]; congr 1; omega
    rw [e, Nat.mod_mul_right_div_self, Nat.mod_mul_right_mod]
  · rw [List.getElem?_eq_none (by rw [bl_length]; omega), List.getElem?_eq_none (by rw [bl_length]; omega)]
end Go.Proofs.Ytkpkiajehclbhaa
