import Derived.Test.YtegabbfdnpjkkaaSumsA
namespace Go.Proofs.Ytegabbfdnpjkkaa
open Go.RowKit

set_option maxHeartbeats 400000 in
theorem rmul_any (a b : Int) (w : World) (h2 : a ≤ 9223372036854775807) (h4 : b ≤ 9223372036854775807) :
    Calls Try.prog 12 #[.int .i64 a, .int .i64 b] w fun e w' => e = .returned (.tuple #[.int .i64 (mulV a b), .int .i64 (mulE a b)]) ∧ w' = w := by
  by_cases ha : a < 0
  · go_enter Try.func12, Try.ntmps12
    go_wp2
    go_ret2
    exact ⟨ret2 (mul_1 a b (.inl ha)), rfl⟩
  by_cases hb : b < 0
  · have hd : decide (b < 0) = true := by simp; omega
    go_enter Try.func12, Try.ntmps12
    go_wp2
    go_ret2
    exact ⟨ret2 (mul_1 a b (.inr hb)), rfl⟩
  have hd : decide (b < 0) = false := by simp; omega
  by_cases h0 : 0 < b
  · by_cases hc : 9223372036854775807 / b < a
    · have hd2 : decide (9223372036854775807 / b < a) = true := by simp; omega
      go_enter Try.func12, Try.ntmps12
      go_wp2
      go_ret2
      exact ⟨ret2 (mul_2 a b (by omega) (by omega) hc), rfl⟩
    · have hd2 : decide (9223372036854775807 / b < a) = false := by simp; omega
      have hf := mul_fits a b (by omega) h0 (by omega)
      obtain ⟨hf1, hf2⟩ := hf
      go_enter Try.func12, Try.ntmps12
      go_wp2
      go_ret2
      exact ⟨ret2 (mul_3 a b (by omega) (by omega) (by omega)), rfl⟩
  · obtain rfl : b = 0 := by omega
    go_enter Try.func12, Try.ntmps12
    go_wp2
    go_ret2
    exact ⟨ret2 (by have := mul_3 a 0 (by omega) (by omega) (by omega); simpa using this), rfl⟩

/-! ### Up -/
theorem mod_bd (n u : Int) (h : 1 ≤ u) : 0 ≤ n % u ∧ n % u < u := ⟨Int.emod_nonneg _ (by omega), Int.emod_lt_of_pos _ (by omega)⟩
set_option maxHeartbeats 400000 in
theorem sup_any (n u : Int) (w : World) (h2 : n ≤ 9223372036854775807) (h4 : u ≤ 9223372036854775807) :
    Calls Try.prog 13 #[.int .i64 n, .int .i64 u] w fun e w' => e = .returned (.tuple #[.int .i64 (upV n u), .int .i64 (upE n u)]) ∧ w' = w := by
  by_cases ha : n < 0
  · go_enter Try.func13, Try.ntmps13
    go_wp2
    go_ret2
    exact ⟨ret2 (up_1 n u (.inl ha)), rfl⟩
  by_cases hb : u < 1
  · have hd : decide (u < 1) = true := by simp; omega
    go_enter Try.func13, Try.ntmps13
    go_wp2
    go_ret2
    exact ⟨ret2 (up_1 n u (.inr hb)), rfl⟩
  have hd : decide (u < 1) = false := by simp; omega
  obtain ⟨hm1, hm2⟩ := mod_bd n u (by omega)
  by_cases hc : n % u = 0
  · have hd2 : (n % u == 0) = true := by simp [hc]
    have HC : Hid (n % u = 0) := hc
    clear hc
    go_enter Try.func13, Try.ntmps13
    go_wp2
    go_ret2
    exact ⟨ret2 (up_2 n u (by omega) (by omega) HC.out), rfl⟩
  · have hd2 : (n % u == 0) = false := by simp [hc]
    have HC : Hid (¬ n % u = 0) := hc
    clear hc
    go_enter Try.func13, Try.ntmps13
    go_wp2_with (first
      | (go_at_call 9; refine (sadd_any _ _ _ h2 ?_).mono ?_; rotate_left; rintro e w' ⟨rfl, rfl⟩; rotate_left; omega)
      | (go_at_call 34; go_in))
    go_ret2
    exact ⟨ret2 (up_3 n u (by omega) (by omega) HC.out), rfl⟩

end Go.Proofs.Ytegabbfdnpjkkaa
