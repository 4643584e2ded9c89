import Derived.Test.YtegabbfdnpjkkaaProg
import Derived.WalkKit
import Derived.WalkLawsBesides
import Derived.WalkSpells
namespace Go.Proofs.Ytegabbfdnpjkkaa
open Go.RowKit

/-! ### The plain numbers -/
def addV (a b : Int) : Int := if a < 0 ∨ b < 0 then 0 else if 9223372036854775807 - b < a then 0 else a + b
def addE (a b : Int) : Int := if a < 0 ∨ b < 0 then 1 else if 9223372036854775807 - b < a then 10 else 0
theorem add_1 (a b : Int) (h : a < 0 ∨ b < 0) : addV a b = 0 ∧ addE a b = 1 := by unfold addV addE; rw [if_pos h, if_pos h]; exact ⟨rfl, rfl⟩
theorem add_2 (a b : Int) (h : 0 ≤ a) (h' : 0 ≤ b) (hc : 9223372036854775807 - b < a) : addV a b = 0 ∧ addE a b = 10 := by unfold addV addE; rw [if_neg (by omega), if_pos hc, if_neg (by omega), if_pos hc]; exact ⟨rfl, rfl⟩
theorem add_3 (a b : Int) (h : 0 ≤ a) (h' : 0 ≤ b) (hc : ¬ 9223372036854775807 - b < a) : addV a b = a + b ∧ addE a b = 0 := by unfold addV addE; rw [if_neg (by omega), if_neg hc, if_neg (by omega), if_neg hc]; exact ⟨rfl, rfl⟩
def mulV (a b : Int) : Int := if a < 0 ∨ b < 0 then 0 else if 0 < b ∧ 9223372036854775807 / b < a then 0 else a * b
def mulE (a b : Int) : Int := if a < 0 ∨ b < 0 then 1 else if 0 < b ∧ 9223372036854775807 / b < a then 10 else 0
theorem mul_1 (a b : Int) (h : a < 0 ∨ b < 0) : mulV a b = 0 ∧ mulE a b = 1 := by unfold mulV mulE; rw [if_pos h, if_pos h]; exact ⟨rfl, rfl⟩
theorem mul_2 (a b : Int) (h : 0 ≤ a) (h' : 0 < b) (hc : 9223372036854775807 / b < a) : mulV a b = 0 ∧ mulE a b = 10 := by unfold mulV mulE; rw [if_neg (by omega), if_pos ⟨h', hc⟩, if_neg (by omega), if_pos ⟨h', hc⟩]; exact ⟨rfl, rfl⟩
theorem mul_3 (a b : Int) (h : 0 ≤ a) (h' : 0 ≤ b) (hc : ¬ (0 < b ∧ 9223372036854775807 / b < a)) : mulV a b = a * b ∧ mulE a b = 0 := by unfold mulV mulE; rw [if_neg (by omega), if_neg hc, if_neg (by omega), if_neg hc]; exact ⟨rfl, rfl⟩
theorem mul_fits (a b : Int) (h : 0 ≤ a) (h' : 0 < b) (hc : a ≤ 9223372036854775807 / b) : 0 ≤ a * b ∧ a * b ≤ 9223372036854775807 :=
  ⟨Int.mul_nonneg h (by omega), by have := (Int.le_ediv_iff_mul_le h').1 hc; omega⟩
def upV (n u : Int) : Int := if n < 0 ∨ u < 1 then 0 else if n % u = 0 then n else addV n (u - n % u)
def upE (n u : Int) : Int := if n < 0 ∨ u < 1 then 1 else if n % u = 0 then 0 else addE n (u - n % u)
theorem up_1 (n u : Int) (h : n < 0 ∨ u < 1) : upV n u = 0 ∧ upE n u = 1 := by unfold upV upE; rw [if_pos h, if_pos h]; exact ⟨rfl, rfl⟩
theorem up_2 (n u : Int) (h : 0 ≤ n) (h' : 1 ≤ u) (hc : n % u = 0) : upV n u = n ∧ upE n u = 0 := by unfold upV upE; rw [if_neg (by omega), if_pos hc, if_neg (by omega), if_pos hc]; exact ⟨rfl, rfl⟩
theorem up_3 (n u : Int) (h : 0 ≤ n) (h' : 1 ≤ u) (hc : ¬ n % u = 0) : upV n u = addV n (u - n % u) ∧ upE n u = addE n (u - n % u) := by unfold upV upE; rw [if_neg (by omega), if_neg hc, if_neg (by omega), if_neg hc]; exact ⟨rfl, rfl⟩

theorem ret2 {a b c d : Int} (h : c = a ∧ d = b) : Ending.returned (.tuple #[.int .i64 a, .int .i64 b]) = .returned (.tuple #[.int .i64 c, .int .i64 d]) := by rw [h.1, h.2]

/-! ### Add -/
set_option maxHeartbeats 400000 in
theorem sadd_any (a b : Int) (w : World) (h2 : a ≤ 9223372036854775807) (h4 : b ≤ 9223372036854775807) :
    Calls Try.prog 9 #[.int .i64 a, .int .i64 b] w fun e w' => e = .returned (.tuple #[.int .i64 (addV a b), .int .i64 (addE a b)]) ∧ w' = w := by
  by_cases ha : a < 0
  · go_enter Try.func9, Try.ntmps9
    go_wp2
    go_ret2
    exact ⟨ret2 (add_1 a b (.inl ha)), rfl⟩
  by_cases hb : b < 0
  · have hd : decide (0 ≤ b) = false := by simp; omega
    go_enter Try.func9, Try.ntmps9
    go_wp2
    go_ret2
    exact ⟨ret2 (add_1 a b (.inr hb)), rfl⟩
  have hd : decide (0 ≤ b) = true := by simp; omega
  by_cases hc : 9223372036854775807 - b < a
  · go_enter Try.func9, Try.ntmps9
    go_wp2
    go_ret2
    exact ⟨ret2 (add_2 a b (by omega) (by omega) hc), rfl⟩
  · go_enter Try.func9, Try.ntmps9
    go_wp2
    go_ret2
    exact ⟨ret2 (add_3 a b (by omega) (by omega) (by omega)), rfl⟩

set_option maxHeartbeats 400000 in
theorem radd_any (a b : Int) (w : World) (h2 : a ≤ 9223372036854775807) (h4 : b ≤ 9223372036854775807) :
    Calls Try.prog 10 #[.int .i64 a, .int .i64 b] w fun e w' => e = .returned (.tuple #[.int .i64 (addV a b), .int .i64 (addE a b)]) ∧ w' = w := by
  by_cases ha : a < 0
  · go_enter Try.func10, Try.ntmps10
    go_wp2
    go_ret2
    exact ⟨ret2 (add_1 a b (.inl ha)), rfl⟩
  by_cases hb : b < 0
  · have hd : decide (b < 0) = true := by simp; omega
    go_enter Try.func10, Try.ntmps10
    go_wp2
    go_ret2
    exact ⟨ret2 (add_1 a b (.inr hb)), rfl⟩
  have hd : decide (b < 0) = false := by simp; omega
  by_cases hc : 9223372036854775807 - b < a
  · go_enter Try.func10, Try.ntmps10
    go_wp2
    go_ret2
    exact ⟨ret2 (add_2 a b (by omega) (by omega) hc), rfl⟩
  · go_enter Try.func10, Try.ntmps10
    go_wp2
    go_ret2
    exact ⟨ret2 (add_3 a b (by omega) (by omega) (by omega)), rfl⟩

/-! ### Mul -/
set_option maxHeartbeats 400000 in
theorem smul_any (a b : Int) (w : World) (h2 : a ≤ 9223372036854775807) (h4 : b ≤ 9223372036854775807) :
    Calls Try.prog 11 #[.int .i64 a, .int .i64 b] w fun e w' => e = .returned (.tuple #[.int .i64 (mulV a b), .int .i64 (mulE a b)]) ∧ w' = w := by
  by_cases ha : a < 0
  · go_enter Try.func11, Try.ntmps11
    go_wp2
    go_ret2
    exact ⟨ret2 (mul_1 a b (.inl ha)), rfl⟩
  by_cases hb : b < 0
  · have hd : decide (0 ≤ b) = false := by simp; omega
    go_enter Try.func11, Try.ntmps11
    go_wp2
    go_ret2
    exact ⟨ret2 (mul_1 a b (.inr hb)), rfl⟩
  have hd : decide (0 ≤ b) = true := by simp; omega
  by_cases h0 : 0 < b
  · by_cases hc : 9223372036854775807 / b < a
    · have hd2 : decide (9223372036854775807 / b < a) = true := by simp; omega
      go_enter Try.func11, Try.ntmps11
      go_wp2
      go_ret2
      exact ⟨ret2 (mul_2 a b (by omega) (by omega) hc), rfl⟩
    · have hd2 : decide (9223372036854775807 / b < a) = false := by simp; omega
      have hf := mul_fits a b (by omega) h0 (by omega)
      obtain ⟨hf1, hf2⟩ := hf
      go_enter Try.func11, Try.ntmps11
      go_wp2
      go_ret2
      exact ⟨ret2 (mul_3 a b (by omega) (by omega) (by omega)), rfl⟩
  · obtain rfl : b = 0 := by omega
    go_enter Try.func11, Try.ntmps11
    go_wp2
    go_ret2
    exact ⟨ret2 (by have := mul_3 a 0 (by omega) (by omega) (by omega); simpa using this), rfl⟩
end Go.Proofs.Ytegabbfdnpjkkaa
