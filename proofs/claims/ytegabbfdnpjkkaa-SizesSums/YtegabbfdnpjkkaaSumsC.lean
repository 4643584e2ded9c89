import Derived.Test.YtegabbfdnpjkkaaSumsB
namespace Go.Proofs.Ytegabbfdnpjkkaa
open Go.RowKit
set_option maxHeartbeats 400000 in
theorem rup_any (n u : Int) (w : World) (h2 : n ≤ 9223372036854775807) (h4 : u ≤ 9223372036854775807) :
    Calls Try.prog 14 #[.int .i64 n, .int .i64 u] w fun e w' => e = .returned (.tuple #[.int .i64 (upV n u), .int .i64 (upE n u)]) ∧ w' = w := by
  by_cases ha : n < 0
  · go_enter Try.func14, Try.ntmps14
    go_wp2
    go_ret2
    exact ⟨ret2 (up_1 n u (.inl ha)), rfl⟩
  by_cases hb : u < 1
  · have hd : decide (u < 1) = true := by simp; omega
    go_enter Try.func14, Try.ntmps14
    go_wp2
    go_ret2
    exact ⟨ret2 (up_1 n u (.inr hb)), rfl⟩
  have hd : decide (u < 1) = false := by simp; omega
  obtain ⟨hm1, hm2⟩ := mod_bd n u (by omega)
  by_cases hc : n % u = 0
  · have hd2 : (n % u == 0) = true := by simp [hc]
    have HC : Hid (n % u = 0) := hc
    clear hc
    go_enter Try.func14, Try.ntmps14
    go_wp2
    go_ret2
    exact ⟨ret2 (up_2 n u (by omega) (by omega) HC.out), rfl⟩
  · have hd2 : (n % u == 0) = false := by simp [hc]
    have HC : Hid (¬ n % u = 0) := hc
    clear hc
    go_enter Try.func14, Try.ntmps14
    go_wp2_with ((go_at_call 10; refine (radd_any _ _ _ h2 ?_).mono ?_; rotate_left; rintro e w' ⟨rfl, rfl⟩; rotate_left; omega))
    go_ret2
    exact ⟨ret2 (up_3 n u (by omega) (by omega) HC.out), rfl⟩


theorem up_one : upV 513 512 = 1024 ∧ upE 513 512 = 0 := by decide
set_option maxHeartbeats 1000000 in
theorem sums_walk (a b : Int) (w : World) (h2 : a ≤ 9223372036854775807) (h4 : b ≤ 9223372036854775807) :
    Calls Try.prog 3 #[.int .i64 a, .int .i64 b] w fun e w' => e = .returned (.bool true) ∧ w' = w := by
  obtain ⟨u1, u2⟩ := up_one
  go_enter Try.func3, Try.ntmps3
  go_wp2_with (first
    | (go_at_call 9; refine (sadd_any _ _ _ h2 h4).mono ?_; rintro e w' ⟨rfl, rfl⟩)
    | (go_at_call 10; refine (radd_any _ _ _ h2 h4).mono ?_; rintro e w' ⟨rfl, rfl⟩)
    | (go_at_call 11; refine (smul_any _ _ _ h2 h4).mono ?_; rintro e w' ⟨rfl, rfl⟩)
    | (go_at_call 12; refine (rmul_any _ _ _ h2 h4).mono ?_; rintro e w' ⟨rfl, rfl⟩))
  refine (sup_any a b _ h2 h4).mono ?_
  rintro e w' ⟨rfl, rfl⟩
  go_wp2_with (go_at_call 14; refine (rup_any _ _ _ h2 h4).mono ?_; rintro e w' ⟨rfl, rfl⟩)
  refine (sup_any 513 512 _ (by decide) (by decide)).mono ?_
  rintro e w' ⟨rfl, rfl⟩
  rw [u1, u2]
  clear u1 u2
  go_wp2
  go_ret
  exact ⟨rfl, rfl⟩

end Go.Proofs.Ytegabbfdnpjkkaa
