import Derived.Test.YtegabbfdnpjkkaaLeastA
namespace Go.Proofs.Ytegabbfdnpjkkaa
open Go.RowKit
set_option linter.unusedVariables false

set_option maxHeartbeats 1000000 in
theorem least_over0 (n u U : Int) (t : Nat) (w : World) (h0 : 0 ≤ n) (h2 : n ≤ 9223372036854775807) (h4 : u ≤ 9223372036854775807) (ht : t ≤ 255) (hU : upV n u = U) (hE : upE n u = 0) (hU1 : n ≤ U) (hU2 : U ≤ 9223372036854775807) (hU3 : (U % u != 0) = false) (hU4 : U - n < u) (hM : mulV n (t : Int) = 0) (hF : mulE n (t : Int) = 10) (HM : Hid (9223372036854775807 < n * (t : Int))) :
    Calls Try.prog 8 #[.int .i64 n, .int .i64 u, .int .u8 (t : Int)] w fun e w' => e = .returned (.bool true) ∧ w' = w := by
  have hu := sup_any n u w h2 h4
  rw [hU, hE] at hu
  have hm := smul_any n (t : Int) w h2 (by omega)
  rw [hM, hF] at hm
  have ho := sup_any 1 512 w (by decide) (by decide)
  rw [up_two.1, up_two.2] at ho
  clear hU hE hM hF
  have hd1 : decide (u ≤ U - n) = false := by simp; omega
  have hd2 : decide (U < n) = false := by simp; omega
  go_enter Try.func8, Try.ntmps8
  go_wp2_with fail
  refine hu.mono ?_
  rintro e w' ⟨rfl, rfl⟩
  go_wp2_with fail
  refine hm.mono ?_
  rintro e w' ⟨rfl, rfl⟩
  go_wp2_with fail
  go_loop [11, 12, 13] (fun x g i => ∃ (k : Nat) (s e : Int), k ≤ t ∧ i = .int .i64 k ∧ x = .int .i64 s ∧ g = .int .i64 e ∧ (e = 0 ∧ s = (k : Int) * n ∧ 0 ≤ s ∧ s ≤ 9223372036854775807 ∨ e = 10 ∧ s = 0)) (fun _ _ i => t - (intOf i).toNat)
  case atStart => exact ⟨0, 0, 0, Nat.zero_le _, rfl, rfl, rfl, .inl ⟨rfl, (by simp : (0 : Int) = ((0 : Nat) : Int) * n), by omega, by omega⟩⟩
  case round =>
    obtain ⟨k, s, e, hk, rfl, rfl, rfl, ⟨rfl, hs, hs1, hs2⟩ | ⟨rfl, rfl⟩⟩ := hrel
    · have HS : Hid (s = (k : Int) * n) := hs
      clear hs
      by_cases hlt : k < t
      · have hc := sadd_any s n w' hs2 h2
        by_cases hov : 9223372036854775807 - n < s
        · rw [(add_2 s n hs1 h0 hov).1, (add_2 s n hs1 h0 hov).2] at hc
          go_wp2_with (go_at_call 9; refine hc.mono ?_; rintro e w' ⟨rfl, rfl⟩)
          go_round
          case rel => exact ⟨k + 1, 0, 10, by omega, by go_num, rfl, rfl, .inr ⟨rfl, rfl⟩⟩
          case measure => simp [intOf]; omega
        · rw [(add_3 s n hs1 h0 hov).1, (add_3 s n hs1 h0 hov).2] at hc
          go_wp2_with (go_at_call 9; refine hc.mono ?_; rintro e w' ⟨rfl, rfl⟩)
          go_round
          case rel => exact ⟨k + 1, s + n, 0, by omega, by go_num, rfl, rfl, .inl ⟨rfl, succ_mul k n s HS.out, by omega, by omega⟩⟩
          case measure => simp [intOf]; omega
      · exfalso
        obtain rfl : k = t := by omega
        have := HM.out; rw [Int.mul_comm, ← HS.out] at this; omega
    · go_wp2_with fail
      all_goals
        refine ho.mono ?_
        rintro e w' ⟨rfl, rfl⟩
        go_wp2
        go_ret
        exact ⟨rfl, rfl⟩

set_option maxHeartbeats 1000000 in
theorem least_over1 (n u U E : Int) (t : Nat) (w : World) (h0 : 0 ≤ n) (h2 : n ≤ 9223372036854775807) (h4 : u ≤ 9223372036854775807) (ht : t ≤ 255) (hU : upV n u = U) (hE : upE n u = E) (hE0 : (E == 0) = false) (hM : mulV n (t : Int) = 0) (hF : mulE n (t : Int) = 10) (HM : Hid (9223372036854775807 < n * (t : Int))) :
    Calls Try.prog 8 #[.int .i64 n, .int .i64 u, .int .u8 (t : Int)] w fun e w' => e = .returned (.bool true) ∧ w' = w := by
  have hu := sup_any n u w h2 h4
  rw [hU, hE] at hu
  have hm := smul_any n (t : Int) w h2 (by omega)
  rw [hM, hF] at hm
  have ho := sup_any 1 512 w (by decide) (by decide)
  rw [up_two.1, up_two.2] at ho
  clear hU hE hM hF
  go_enter Try.func8, Try.ntmps8
  go_wp2_with fail
  refine hu.mono ?_
  rintro e w' ⟨rfl, rfl⟩
  go_wp2_with fail
  refine hm.mono ?_
  rintro e w' ⟨rfl, rfl⟩
  go_wp2_with fail
  go_loop [11, 12, 13] (fun x g i => ∃ (k : Nat) (s e : Int), k ≤ t ∧ i = .int .i64 k ∧ x = .int .i64 s ∧ g = .int .i64 e ∧ (e = 0 ∧ s = (k : Int) * n ∧ 0 ≤ s ∧ s ≤ 9223372036854775807 ∨ e = 10 ∧ s = 0)) (fun _ _ i => t - (intOf i).toNat)
  case atStart => exact ⟨0, 0, 0, Nat.zero_le _, rfl, rfl, rfl, .inl ⟨rfl, (by simp : (0 : Int) = ((0 : Nat) : Int) * n), by omega, by omega⟩⟩
  case round =>
    obtain ⟨k, s, e, hk, rfl, rfl, rfl, ⟨rfl, hs, hs1, hs2⟩ | ⟨rfl, rfl⟩⟩ := hrel
    · have HS : Hid (s = (k : Int) * n) := hs
      clear hs
      by_cases hlt : k < t
      · have hc := sadd_any s n w' hs2 h2
        by_cases hov : 9223372036854775807 - n < s
        · rw [(add_2 s n hs1 h0 hov).1, (add_2 s n hs1 h0 hov).2] at hc
          go_wp2_with (go_at_call 9; refine hc.mono ?_; rintro e w' ⟨rfl, rfl⟩)
          go_round
          case rel => exact ⟨k + 1, 0, 10, by omega, by go_num, rfl, rfl, .inr ⟨rfl, rfl⟩⟩
          case measure => simp [intOf]; omega
        · rw [(add_3 s n hs1 h0 hov).1, (add_3 s n hs1 h0 hov).2] at hc
          go_wp2_with (go_at_call 9; refine hc.mono ?_; rintro e w' ⟨rfl, rfl⟩)
          go_round
          case rel => exact ⟨k + 1, s + n, 0, by omega, by go_num, rfl, rfl, .inl ⟨rfl, succ_mul k n s HS.out, by omega, by omega⟩⟩
          case measure => simp [intOf]; omega
      · exfalso
        obtain rfl : k = t := by omega
        have := HM.out; rw [Int.mul_comm, ← HS.out] at this; omega
    · go_wp2_with fail
      all_goals
        refine ho.mono ?_
        rintro e w' ⟨rfl, rfl⟩
        go_wp2
        go_ret
        exact ⟨rfl, rfl⟩

set_option maxHeartbeats 1000000 in
theorem least_neg (n u : Int) (t : Nat) (w : World) (h0 : n < 0) (h4 : u ≤ 9223372036854775807) (ht : t ≤ 255) :
    Calls Try.prog 8 #[.int .i64 n, .int .i64 u, .int .u8 (t : Int)] w fun e w' => e = .returned (.bool true) ∧ w' = w := by
  have hu := sup_any n u w (by omega) h4
  rw [(up_1 n u (.inl h0)).1, (up_1 n u (.inl h0)).2] at hu
  have hm := smul_any n (t : Int) w (by omega) (by omega)
  rw [(mul_1 n (t : Int) (.inl h0)).1, (mul_1 n (t : Int) (.inl h0)).2] at hm
  go_enter Try.func8, Try.ntmps8
  go_wp2_with fail
  refine hu.mono ?_
  rintro e w' ⟨rfl, rfl⟩
  go_wp2_with fail
  refine hm.mono ?_
  rintro e w' ⟨rfl, rfl⟩
  go_wp2_with fail
  go_loop [11, 12, 13] (fun x g i => ∃ (k : Nat) (e : Int), k ≤ t ∧ i = .int .i64 k ∧ x = .int .i64 0 ∧ g = .int .i64 e) (fun _ _ i => t - (intOf i).toNat)
  case atStart => exact ⟨0, 0, Nat.zero_le _, rfl, rfl, rfl⟩
  case round =>
    obtain ⟨k, e, hk, rfl, rfl, rfl⟩ := hrel
    have hc := sadd_any 0 n w' (by omega) (by omega)
    rw [(add_1 0 n (.inr h0)).1, (add_1 0 n (.inr h0)).2] at hc
    by_cases hlt : k < t
    · by_cases he : (e == 0) = true
      · go_wp2_with (go_at_call 9; refine hc.mono ?_; rintro e w' ⟨rfl, rfl⟩)
        go_round
        case rel => exact ⟨k + 1, 1, by omega, by go_num, rfl, rfl⟩
        case measure => simp [intOf]; omega
      · have he : (e == 0) = false := by simpa using he
        go_wp2
        go_ret
        exact ⟨rfl, rfl⟩
    · go_wp2
      go_ret
      exact ⟨rfl, rfl⟩

theorem least_walk (n u : Int) (t : Nat) (w : World) (h2 : n ≤ 9223372036854775807) (h4 : u ≤ 9223372036854775807) (ht : t ≤ 255) :
    Calls Try.prog 8 #[.int .i64 n, .int .i64 u, .int .u8 (t : Int)] w fun e w' => e = .returned (.bool true) ∧ w' = w := by
  by_cases h0 : n < 0
  · exact least_neg n u t w h0 h4 ht
  have h0 : 0 ≤ n := by omega
  by_cases hE : upE n u = 0
  · have hu : 1 ≤ u := by
      by_cases hu : u < 1
      · rw [(up_1 n u (.inr hu)).2] at hE; omega
      · omega
    obtain ⟨k1, k2, k3, k4⟩ := up_ok n u h0 h2 hu hE
    by_cases hf : n * (t : Int) ≤ 9223372036854775807
    · obtain ⟨m1, m2⟩ := mul_yes n t h0 (by omega) hf
      exact least_fit0 n u _ _ t w h0 h2 h4 ht rfl hE k1 k2 (by simp [k3]) k4 m1 m2 (rfl : n * (t : Int) = n * (t : Int)) hf
    · obtain ⟨m1, m2⟩ := mul_no n t h0 (by omega) (by omega)
      exact least_over0 n u _ t w h0 h2 h4 ht rfl hE k1 k2 (by simp [k3]) k4 m1 m2 (show 9223372036854775807 < n * (t : Int) by omega)
  · by_cases hf : n * (t : Int) ≤ 9223372036854775807
    · obtain ⟨m1, m2⟩ := mul_yes n t h0 (by omega) hf
      exact least_fit1 n u _ _ _ t w h0 h2 h4 ht rfl rfl (by simpa using hE) m1 m2 (rfl : n * (t : Int) = n * (t : Int)) hf
    · obtain ⟨m1, m2⟩ := mul_no n t h0 (by omega) (by omega)
      exact least_over1 n u _ _ t w h0 h2 h4 ht rfl rfl (by simpa using hE) m1 m2 (show 9223372036854775807 < n * (t : Int) by omega)

end Go.Proofs.Ytegabbfdnpjkkaa
