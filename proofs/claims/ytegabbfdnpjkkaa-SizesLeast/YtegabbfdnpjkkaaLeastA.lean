import Derived.Test.YtegabbfdnpjkkaaSumsB
namespace Go.Proofs.Ytegabbfdnpjkkaa
open Go.RowKit
set_option linter.unusedVariables false

/-! ### The plain numbers -/
theorem up_ok (n u : Int) (h : 0 ≤ n) (hn : n ≤ 9223372036854775807) (h' : 1 ≤ u) (he : upE n u = 0) : n ≤ upV n u ∧ upV n u ≤ 9223372036854775807 ∧ upV n u % u = 0 ∧ upV n u - n < u := by
  obtain ⟨m1, m2⟩ := mod_bd n u h'
  by_cases hc : n % u = 0
  · obtain ⟨e1, _⟩ := up_2 n u h h' hc
    rw [e1]; exact ⟨Int.le_refl _, hn, hc, by omega⟩
  · obtain ⟨e1, e2⟩ := up_3 n u h h' hc
    rw [e2] at he
    rw [e1]
    by_cases ho : 9223372036854775807 - (u - n % u) < n
    · rw [(add_2 n (u - n % u) h (by omega) ho).2] at he; omega
    · rw [(add_3 n (u - n % u) h (by omega) ho).1]
      refine ⟨by omega, by omega, ?_, by omega⟩
      rw [show n + (u - n % u) = u * (n / u) + u * 1 by have := Int.mul_ediv_add_emod n u; omega, ← Int.mul_add]
      exact Int.mul_emod_right _ _
theorem mul_yes (n t : Int) (h : 0 ≤ n) (ht : 0 ≤ t) (hf : n * t ≤ 9223372036854775807) : mulV n t = n * t ∧ mulE n t = 0 :=
  mul_3 n t h ht (fun ⟨h0, hc⟩ => by have := (Int.ediv_lt_iff_lt_mul h0).1 hc; omega)
theorem mul_no (n t : Int) (h : 0 ≤ n) (ht : 0 ≤ t) (hf : 9223372036854775807 < n * t) : mulV n t = 0 ∧ mulE n t = 10 := by
  have h0 : 0 < t := by
    rcases Int.lt_or_eq_of_le ht with h1 | h1
    · exact h1
    · rw [← h1] at hf; simp at hf
  exact mul_2 n t h h0 ((Int.ediv_lt_iff_lt_mul h0).2 hf)
theorem up_two : upV 1 512 = 512 ∧ upE 1 512 = 0 := by decide
theorem step_le (k t : Nat) (n : Int) (hn : 0 ≤ n) (h : k < t) : (k : Int) * n + n ≤ n * (t : Int) := by
  have h1 : (k : Int) * n + n = n * ((k : Int) + 1) := by rw [Int.mul_add, Int.mul_comm]; simp
  rw [h1]; exact Int.mul_le_mul_of_nonneg_left (by omega) hn
theorem succ_mul (k : Nat) (n s : Int) (h : s = (k : Int) * n) : s + n = ((k + 1 : Nat) : Int) * n := by
  rw [h, show ((k + 1 : Nat) : Int) = (k : Int) + 1 by omega, Int.add_mul]; simp

set_option maxHeartbeats 1000000 in
theorem least_fit0 (n u U M : Int) (t : Nat) (w : World) (h0 : 0 ≤ n) (h2 : n ≤ 9223372036854775807) (h4 : u ≤ 9223372036854775807) (ht : t ≤ 255) (hU : upV n u = U) (hE : upE n u = 0) (hU1 : n ≤ U) (hU2 : U ≤ 9223372036854775807) (hU3 : (U % u != 0) = false) (hU4 : U - n < u) (hM : mulV n (t : Int) = M) (hF : mulE n (t : Int) = 0) (HM : Hid (M = n * (t : Int))) (hM2 : M ≤ 9223372036854775807) :
    Calls Try.prog 8 #[.int .i64 n, .int .i64 u, .int .u8 (t : Int)] w fun e w' => e = .returned (.bool true) ∧ w' = w := by
  have hu := sup_any n u w h2 h4
  rw [hU, hE] at hu
  have hm := smul_any n (t : Int) w h2 (by omega)
  rw [hM, hF] at hm
  have ho := sup_any 1 512 w (by decide) (by decide)
  rw [up_two.1, up_two.2] at ho
  clear hU hE hM hF
  have hd1 : decide (u ≤ U - n) = false := by simp; omega
  have hd2 : decide (U < n) = false := by simp; omega
  go_enter Try.func8, Try.ntmps8
  go_wp2_with fail
  refine hu.mono ?_
  rintro e w' ⟨rfl, rfl⟩
  go_wp2_with fail
  refine hm.mono ?_
  rintro e w' ⟨rfl, rfl⟩
  go_wp2_with fail
  go_loop [11, 12, 13] (fun x g i => ∃ (k : Nat) (s : Int), k ≤ t ∧ i = .int .i64 k ∧ x = .int .i64 s ∧ g = .int .i64 0 ∧ Hid (s = (k : Int) * n) ∧ 0 ≤ s ∧ s ≤ 9223372036854775807) (fun _ _ i => t - (intOf i).toNat)
  case atStart => exact ⟨0, 0, Nat.zero_le _, rfl, rfl, rfl, (by simp : (0 : Int) = ((0 : Nat) : Int) * n), by omega, by omega⟩
  case round =>
    obtain ⟨k, s, hk, rfl, rfl, rfl, HS, hs1, hs2⟩ := hrel
    by_cases hlt : k < t
    · have hst := step_le k t n h0 hlt
      rw [← HS.out, ← HM.out] at hst
      have hc := sadd_any s n w' hs2 h2
      rw [(add_3 s n hs1 h0 (by omega)).1, (add_3 s n hs1 h0 (by omega)).2] at hc
      go_wp2_with (go_at_call 9; refine hc.mono ?_; rintro e w' ⟨rfl, rfl⟩)
      go_round
      case rel => exact ⟨k + 1, s + n, by omega, by go_num, rfl, rfl, succ_mul k n s HS.out, by omega, by omega⟩
      case measure => simp [intOf]; omega
    · obtain rfl : k = t := by omega
      obtain rfl : s = M := by rw [HS.out, HM.out, Int.mul_comm]
      go_wp2_with fail
      refine ho.mono ?_
      rintro e w' ⟨rfl, rfl⟩
      go_wp2
      go_ret
      exact ⟨rfl, rfl⟩

set_option maxHeartbeats 1000000 in
theorem least_fit1 (n u U E M : Int) (t : Nat) (w : World) (h0 : 0 ≤ n) (h2 : n ≤ 9223372036854775807) (h4 : u ≤ 9223372036854775807) (ht : t ≤ 255) (hU : upV n u = U) (hE : upE n u = E) (hE0 : (E == 0) = false) (hM : mulV n (t : Int) = M) (hF : mulE n (t : Int) = 0) (HM : Hid (M = n * (t : Int))) (hM2 : M ≤ 9223372036854775807) :
    Calls Try.prog 8 #[.int .i64 n, .int .i64 u, .int .u8 (t : Int)] w fun e w' => e = .returned (.bool true) ∧ w' = w := by
  have hu := sup_any n u w h2 h4
  rw [hU, hE] at hu
  have hm := smul_any n (t : Int) w h2 (by omega)
  rw [hM, hF] at hm
  have ho := sup_any 1 512 w (by decide) (by decide)
  rw [up_two.1, up_two.2] at ho
  clear hU hE hM hF
  go_enter Try.func8, Try.ntmps8
  go_wp2_with fail
  refine hu.mono ?_
  rintro e w' ⟨rfl, rfl⟩
  go_wp2_with fail
  refine hm.mono ?_
  rintro e w' ⟨rfl, rfl⟩
  go_wp2_with fail
  go_loop [11, 12, 13] (fun x g i => ∃ (k : Nat) (s : Int), k ≤ t ∧ i = .int .i64 k ∧ x = .int .i64 s ∧ g = .int .i64 0 ∧ Hid (s = (k : Int) * n) ∧ 0 ≤ s ∧ s ≤ 9223372036854775807) (fun _ _ i => t - (intOf i).toNat)
  case atStart => exact ⟨0, 0, Nat.zero_le _, rfl, rfl, rfl, (by simp : (0 : Int) = ((0 : Nat) : Int) * n), by omega, by omega⟩
  case round =>
    obtain ⟨k, s, hk, rfl, rfl, rfl, HS, hs1, hs2⟩ := hrel
    by_cases hlt : k < t
    · have hst := step_le k t n h0 hlt
      rw [← HS.out, ← HM.out] at hst
      have hc := sadd_any s n w' hs2 h2
      rw [(add_3 s n hs1 h0 (by omega)).1, (add_3 s n hs1 h0 (by omega)).2] at hc
      go_wp2_with (go_at_call 9; refine hc.mono ?_; rintro e w' ⟨rfl, rfl⟩)
      go_round
      case rel => exact ⟨k + 1, s + n, by omega, by go_num, rfl, rfl, succ_mul k n s HS.out, by omega, by omega⟩
      case measure => simp [intOf]; omega
    · obtain rfl : k = t := by omega
      obtain rfl : s = M := by rw [HS.out, HM.out, Int.mul_comm]
      go_wp2_with fail
      refine ho.mono ?_
      rintro e w' ⟨rfl, rfl⟩
      go_wp2
      go_ret
      exact ⟨rfl, rfl⟩

end Go.Proofs.Ytegabbfdnpjkkaa
