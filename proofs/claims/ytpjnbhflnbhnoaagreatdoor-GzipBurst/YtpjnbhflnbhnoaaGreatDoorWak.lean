import Derived.Test.YtpjnbhflnbhnoaaGreatDoorWai
namespace Go.Proofs.YtpjnbhflnbhnoaaGreatDoor
open Go.RowKit
set_option linter.unusedVariables false
/-! ### Bits turned round -/
/-- The lowest n bits, the last one first. -/
def rev : Nat → Nat → Nat
  | 0, _ => 0
  | n + 1, x => (x % 2) * 2 ^ n + rev n (x / 2)
theorem rev_lt (n x : Nat) : rev n x < 2 ^ n := by
  induction n generalizing x with
  | zero => simp [rev]
  | succ n ih =>
    have h1 := ih (x / 2)
    have h2 : x % 2 < 2 := Nat.mod_lt _ (by decide)
    rw [rev, Nat.pow_succ]
    have h3 : (x % 2) * 2 ^ n ≤ 1 * 2 ^ n := Nat.mul_le_mul_right _ (by omega)
    omega
theorem rev_add (n k x : Nat) : rev (n + k) x = rev n x * 2 ^ k + rev k (x / 2 ^ n) := by
  induction n generalizing x with
  | zero => simp [rev]
  | succ n ih =>
    rw [show n + 1 + k = n + k + 1 by omega, rev, ih, rev, Nat.add_mul, Nat.mul_assoc, ← Nat.pow_add, Nat.add_assoc, Nat.div_div_eq_div_mul, Nat.pow_succ, Nat.mul_comm 2]
/-- The highest bits of what was turned are the lowest, turned. -/
theorem rev_div (n m x : Nat) (h : n ≤ m) : rev m x / 2 ^ (m - n) = rev n x := by
  have e := rev_add n (m - n) x
  rw [show n + (m - n) = m by omega] at e
  rw [e, Nat.mul_comm, Nat.mul_add_div (Nat.pow_pos (by decide)), Nat.div_eq_of_lt (rev_lt _ _), Nat.add_zero]
theorem rev_mod (n m x : Nat) (h : n ≤ m) : rev n (x % 2 ^ m) = rev n x := by
  induction n generalizing x m with
  | zero => rfl
  | succ n ih =>
    obtain ⟨k, rfl⟩ : ∃ k, m = k + 1 := ⟨m - 1, by omega⟩
    rw [rev, rev]
    have e1 : x % 2 ^ (k + 1) % 2 = x % 2 := by rw [Nat.pow_succ, Nat.mul_comm, Nat.mod_mul_right_mod]
    have e2 : x % 2 ^ (k + 1) / 2 = x / 2 % 2 ^ k := by rw [Nat.pow_succ, Nat.mul_comm, Nat.mod_mul_right_div_self]
    rw [e1, e2, ih k _ (by omega)]
theorem rev_snoc (n x : Nat) : rev (n + 1) x = rev n x * 2 + x / 2 ^ n % 2 := by
  have := rev_add n 1 x
  rw [this]
  simp [rev]
theorem rev_rev (n x : Nat) : rev n (rev n x) = x % 2 ^ n := by
  induction n generalizing x with
  | zero => simp [rev, Nat.mod_one]
  | succ n ih =>
    rw [rev_snoc n x, rev]
    have h2 : x / 2 ^ n % 2 < 2 := Nat.mod_lt _ (by decide)
    rw [show (rev n x * 2 + x / 2 ^ n % 2) % 2 = x / 2 ^ n % 2 by omega, show (rev n x * 2 + x / 2 ^ n % 2) / 2 = rev n x by omega, ih, Nat.pow_succ, Nat.mod_mul, Nat.mul_comm (x / 2 ^ n % 2)]
    omega
theorem rev_eq (n x c : Nat) (hc : c < 2 ^ n) : rev n x = c ↔ x % 2 ^ n = rev n c := by
  constructor
  · intro h; rw [← h, rev_rev]
  · intro h
    have : rev n (x % 2 ^ n) = rev n (rev n c) := by rw [h]
    rw [rev_rev, Nat.mod_eq_of_lt hc, rev_mod n n x (Nat.le_refl _)] at this
    exact this
theorem rev_test (n x i : Nat) (hi : i < n) : (rev n x).testBit i = x.testBit (n - 1 - i) := by
  induction n generalizing x i with
  | zero => omega
  | succ n ih =>
    rw [rev]
    by_cases h : i = n
    · subst h
      rw [Nat.testBit, Nat.shiftRight_eq_div_pow, Nat.add_comm, Nat.add_mul_div_right _ _ (Nat.pow_pos (by decide)), Nat.div_eq_of_lt (rev_lt _ _), Nat.zero_add, show i + 1 - 1 - i = 0 by omega]
      simp [Nat.testBit_zero]
      rfl
    · have hlt : i < n := by omega
      have e1 : ((x % 2) * 2 ^ n + rev n (x / 2)).testBit i = (rev n (x / 2)).testBit i := by
        have e : (x % 2) * 2 ^ n = 2 ^ n * (x % 2) := Nat.mul_comm _ _
        rw [e, Nat.testBit_two_pow_mul_add _ (rev_lt _ _), if_pos hlt]
      rw [e1, ih _ _ hlt, Nat.testBit_div_two]
      congr 1
      omega
theorem rev_of_test (n x y : Nat) (hy : y < 2 ^ n) (h : ∀ i, i < n → y.testBit i = x.testBit (n - 1 - i)) : y = rev n x := by
  apply Nat.eq_of_testBit_eq
  intro i
  by_cases hi : i < n
  · rw [h i hi, rev_test n x i hi]
  · rw [Nat.testBit_lt_two_pow (Nat.lt_of_lt_of_le hy (Nat.pow_le_pow_right (by decide) (by omega))), Nat.testBit_lt_two_pow (Nat.lt_of_lt_of_le (rev_lt n x) (Nat.pow_le_pow_right (by decide) (by omega)))]
end Go.Proofs.YtpjnbhflnbhnoaaGreatDoor

namespace Go.Proofs.YtpjnbhflnbhnoaaGreatDoor
open Go.RowKit
set_option linter.unusedVariables false
/-- Neighbours of k bits change places. -/
def swp (x : Nat) (k m : Nat) : Nat := (x / 2 ^ k) &&& m ||| ((x &&& m) * 2 ^ k) % 4294967296
theorem swp_lt (x k m : Nat) (hx : x < 4294967296) : swp x k m < 4294967296 := by
  unfold swp
  have h1 : (x / 2 ^ k) &&& m < 2 ^ 32 := Nat.lt_of_le_of_lt (Nat.and_le_left) (Nat.lt_of_le_of_lt (Nat.div_le_self _ _) hx)
  have h2 : ((x &&& m) * 2 ^ k) % 4294967296 < 2 ^ 32 := Nat.mod_lt _ (by decide)
  exact Nat.or_lt_two_pow h1 h2
theorem swp_test (x k m i : Nat) (hi : i < 32) : (swp x k m).testBit i = ((x.testBit (i + k) && m.testBit i) || (decide (k ≤ i) && (x.testBit (i - k) && m.testBit (i - k)))) := by
  unfold swp
  rw [Nat.testBit_or, Nat.testBit_and, show (4294967296 : Nat) = 2 ^ 32 from rfl, Nat.testBit_mod_two_pow, decide_eq_true hi, Bool.true_and]
  congr 1
  · rw [Nat.testBit_div_two_pow]
  · rw [Nat.mul_comm, Nat.testBit_two_pow_mul, Nat.testBit_and]
def tw (k i : Nat) : Nat := if i / k % 2 = 0 then i + k else i - k
theorem swp_tw (x k m i : Nat) (hk : 0 < k) (hm : ∀ j, j < 32 → m.testBit j = decide (j / k % 2 = 0)) (hi : i < 32) : (swp x k m).testBit i = x.testBit (tw k i) := by
  rw [swp_test x k m i hi, hm i hi, tw]
  by_cases h : i / k % 2 = 0
  · rw [if_pos h, decide_eq_true h, Bool.and_true]
    by_cases hki : k ≤ i
    · have e : (i - k) / k = i / k - 1 := Nat.sub_mul_div_of_le i k 1 (by omega) |> fun h => by simpa using h
      have h1 : 1 ≤ i / k := (Nat.le_div_iff_mul_le hk).2 (by omega)
      rw [hm (i - k) (by omega), e, decide_eq_false (show ¬ (i / k - 1) % 2 = 0 by omega), Bool.and_false, Bool.and_false, Bool.or_false]
    · rw [decide_eq_false hki, Bool.false_and, Bool.or_false]
  · rw [if_neg h, decide_eq_false h, Bool.and_false, Bool.false_or]
    have hki : k ≤ i := by
      rcases Nat.lt_or_ge i k with h' | h'
      · rw [Nat.div_eq_of_lt h'] at h; exact absurd rfl h
      · exact h'
    have e : (i - k) / k = i / k - 1 := Nat.sub_mul_div_of_le i k 1 (by omega) |> fun h => by simpa using h
    have h1 : 1 ≤ i / k := (Nat.le_div_iff_mul_le hk).2 (by omega)
    rw [decide_eq_true hki, Bool.true_and, hm (i - k) (by omega), e, decide_eq_true (show (i / k - 1) % 2 = 0 by omega), Bool.and_true]
/-- The halves change places. -/
def hlv (x : Nat) : Nat := x / 65536 ||| x * 65536 % 4294967296
theorem hlv_tw (x i : Nat) (hx : x < 4294967296) (hi : i < 32) : (hlv x).testBit i = x.testBit (tw 16 i) := by
  unfold hlv tw
  rw [Nat.testBit_or, show (4294967296 : Nat) = 2 ^ 32 from rfl, Nat.testBit_mod_two_pow, decide_eq_true hi, Bool.true_and, show (65536 : Nat) = 2 ^ 16 from rfl, Nat.testBit_div_two_pow, Nat.mul_comm, Nat.testBit_two_pow_mul]
  by_cases h : i < 16
  · rw [if_pos (by omega), decide_eq_false (show ¬ i ≥ 16 by omega), Bool.false_and, Bool.or_false]
  · rw [if_neg (by omega), decide_eq_true (show i ≥ 16 by omega), Bool.true_and, Nat.testBit_lt_two_pow (show x < 2 ^ (i + 16) from Nat.lt_of_lt_of_le hx (show 2 ^ 32 ≤ 2 ^ (i + 16) from Nat.pow_le_pow_right (by decide) (by omega))), Bool.false_or]
theorem hlv_lt (x : Nat) (hx : x < 4294967296) : hlv x < 4294967296 := by
  unfold hlv
  exact Nat.or_lt_two_pow (n := 32) (Nat.lt_of_le_of_lt (Nat.div_le_self _ _) hx) (Nat.mod_lt _ (by decide))
theorem tw_all : ∀ i, i < 32 → tw 16 i < 32 ∧ tw 8 (tw 16 i) < 32 ∧ tw 4 (tw 8 (tw 16 i)) < 32 ∧ tw 2 (tw 4 (tw 8 (tw 16 i))) < 32 ∧ tw 1 (tw 2 (tw 4 (tw 8 (tw 16 i)))) = 32 - 1 - i := by decide
theorem m1 : ∀ j, j < 32 → (1431655765 : Nat).testBit j = decide (j / 1 % 2 = 0) := by decide
theorem m2 : ∀ j, j < 32 → (858993459 : Nat).testBit j = decide (j / 2 % 2 = 0) := by decide
theorem m4 : ∀ j, j < 32 → (252645135 : Nat).testBit j = decide (j / 4 % 2 = 0) := by decide
theorem m8 : ∀ j, j < 32 → (16711935 : Nat).testBit j = decide (j / 8 % 2 = 0) := by decide
theorem swaps (x : Nat) (hx : x < 4294967296) : hlv (swp (swp (swp (swp x 1 1431655765) 2 858993459) 4 252645135) 8 16711935) = rev 32 x := by
  have h1 := swp_lt x 1 1431655765 hx
  have h2 := swp_lt _ 2 858993459 h1
  have h3 := swp_lt _ 4 252645135 h2
  have h4 := swp_lt _ 8 16711935 h3
  apply rev_of_test 32 x _ (hlv_lt _ h4)
  intro i hi
  obtain ⟨t1, t2, t3, t4, t5⟩ := tw_all i hi
  rw [hlv_tw _ i h4 hi, swp_tw _ 8 _ _ (by decide) m8 t1, swp_tw _ 4 _ _ (by decide) m4 t2, swp_tw _ 2 _ _ (by decide) m2 t3, swp_tw _ 1 _ _ (by decide) m1 t4, t5]
/-- As the walk has it. -/
theorem u32_and_n (a b : Nat) (ha : a < 4294967296) (hb : b < 4294967296) : bits .and .u32 (a : Int) (b : Int) = ((a &&& b : Nat) : Int) := by
  rw [u32_and _ _ (by omega) (by omega) (by omega) (by omega), Int.toNat_natCast, Int.toNat_natCast]
theorem u32_or_n (a b : Nat) (ha : a < 4294967296) (hb : b < 4294967296) : bits .or .u32 (a : Int) (b : Int) = ((a ||| b : Nat) : Int) := by
  rw [u32_or _ _ (by omega) (by omega) (by omega) (by omega), Int.toNat_natCast, Int.toNat_natCast]
theorem swp_int (x k m : Nat) (K M : Int) (hK : K = ((2 ^ k : Nat) : Int)) (hM : M = (m : Int)) (hx : x < 4294967296) (hm : m < 4294967296) : bits .or .u32 (bits .and .u32 ((x : Int) / K) M) (bits .and .u32 (x : Int) M * K % 4294967296) = ((swp x k m : Nat) : Int) := by
  subst hK hM
  have e1 : ((x : Int) / ((2 ^ k : Nat) : Int)) = ((x / 2 ^ k : Nat) : Int) := (Int.natCast_ediv x (2 ^ k)).symm
  have hd : x / 2 ^ k < 4294967296 := Nat.lt_of_le_of_lt (Nat.div_le_self _ _) hx
  have hb : x / 2 ^ k &&& m < 4294967296 := Nat.lt_of_le_of_lt Nat.and_le_left hd
  have e2 : (((x &&& m : Nat) : Int) * ((2 ^ k : Nat) : Int) % 4294967296) = (((x &&& m) * 2 ^ k % 4294967296 : Nat) : Int) := by
    rw [Int.natCast_emod, Int.natCast_mul]; rfl
  have hc : (x &&& m) * 2 ^ k % 4294967296 < 4294967296 := Nat.mod_lt _ (by decide)
  rw [e1, u32_and_n _ _ hd hm, u32_and_n _ _ hx hm, e2, u32_or_n _ _ hb hc]
  rfl
theorem hlv_int (x : Nat) (hx : x < 4294967296) : bits .or .u32 ((x : Int) / 65536) ((x : Int) * 65536 % 4294967296) = ((hlv x : Nat) : Int) := by
  have hd : x / 65536 < 4294967296 := by omega
  have hc : x * 65536 % 4294967296 < 4294967296 := Nat.mod_lt _ (by decide)
  have e1 : ((x : Int) / 65536) = ((x / 65536 : Nat) : Int) := by omega
  have e2 : ((x : Int) * 65536 % 4294967296) = ((x * 65536 % 4294967296 : Nat) : Int) := by omega
  rw [e1, e2, u32_or_n _ _ hd hc]
  rfl
set_option maxHeartbeats 8000000 in
theorem revb_any (x : Nat) (hx : x < 4294967296) (w : World) : Calls Tryz.prog 214 #[.int .u32 x] w fun e w' => e = .returned (.int .u32 (hlv (swp x 8 16711935))) ∧ w' = w := by
  obtain ⟨P, hP⟩ : ∃ P : Ending → World → Prop, P = fun e w' => e = .returned (.int .u32 (hlv (swp x 8 16711935))) ∧ w' = w := ⟨_, rfl⟩
  rw [← hP]
  have HF : Hid (P (.returned (.int .u32 (hlv (swp x 8 16711935)))) w) := by
    show P _ _
    rw [hP]; exact ⟨rfl, rfl⟩
  have e1 := swp_int x 8 16711935 256 16711935 rfl rfl hx (by decide)
  have hs := swp_lt x 8 16711935 hx
  have e2 := hlv_int (swp x 8 16711935) hs
  generalize hlv (swp x 8 16711935) = z at *
  generalize swp x 8 16711935 = y at *
  clear hP
  go_enter Tryz.func214, Tryz.ntmps214
  go_wp2
  exact HF.out
set_option maxHeartbeats 8000000 in
theorem rev32_any (x : Nat) (hx : x < 4294967296) (w : World) : Calls Tryz.prog 200 #[.int .u32 x] w fun e w' => e = .returned (.int .u32 (rev 32 x)) ∧ w' = w := by
  obtain ⟨P, hP⟩ : ∃ P : Ending → World → Prop, P = fun e w' => e = .returned (.int .u32 (rev 32 x)) ∧ w' = w := ⟨_, rfl⟩
  rw [← hP]
  have HF : Hid (P (.returned (.int .u32 (rev 32 x))) w) := by
    show P _ _
    rw [hP]; exact ⟨rfl, rfl⟩
  have hsw := swaps x hx
  have e1 := swp_int x 1 1431655765 2 1431655765 rfl rfl hx (by decide)
  have hs := swp_lt x 1 1431655765 hx
  generalize swp x 1 1431655765 = y at *
  have e2 := swp_int y 2 858993459 4 858993459 rfl rfl hs (by decide)
  have hs2 := swp_lt y 2 858993459 hs
  generalize swp y 2 858993459 = y2 at *
  have e3 := swp_int y2 4 252645135 16 252645135 rfl rfl hs2 (by decide)
  have hs3 := swp_lt y2 4 252645135 hs2
  generalize swp y2 4 252645135 = y3 at *
  have HC : Hid (Calls Tryz.prog 214 #[.int .u32 y3] w fun e w' => e = .returned (.int .u32 (rev 32 x)) ∧ w' = w) := by
    have := revb_any y3 hs3 w
    rw [hsw] at this
    exact this
  generalize rev 32 x = z at *
  clear hP hsw
  go_enter Tryz.func200, Tryz.ntmps200
  go_wp2_with (first | (go_at_call 214; (with_reducible refine HC.out.mono ?_); rintro e w1 ⟨rfl, rfl⟩))
  exact HF.out
set_option maxHeartbeats 8000000 in
/-- The program's turned. -/
theorem turned_any (x n : Nat) (hx : x < 4294967296) (hn : n ≤ 32) (w : World) : Calls Tryz.prog 181 #[.int .u32 x, .int .i64 n] w fun e w' => e = .returned (.int .u32 (rev n x)) ∧ w' = w := by
  obtain ⟨P, hP⟩ : ∃ P : Ending → World → Prop, P = fun e w' => e = .returned (.int .u32 (rev n x)) ∧ w' = w := ⟨_, rfl⟩
  rw [← hP]
  have HF : Hid (P (.returned (.int .u32 (rev n x))) w) := by
    show P _ _
    rw [hP]; exact ⟨rfl, rfl⟩
  have HC : Hid (Calls Tryz.prog 200 #[.int .u32 x] w fun e w' => e = .returned (.int .u32 (rev 32 x)) ∧ w' = w) := rev32_any x hx w
  have hd := rev_div n 32 x hn
  obtain ⟨k, hk⟩ : ∃ k, k = 32 - n := ⟨_, rfl⟩
  have hki : (32 : Int) - (n : Int) = (k : Int) := by omega
  have hk32 : k ≤ 32 := by omega
  have hl := rev_lt 32 x
  have hl2 : rev 32 x < 4294967296 := hl
  rw [← hk] at hd
  have hdi : ((rev 32 x : Nat) : Int) / 2 ^ k = ((rev n x : Nat) : Int) := by rw [← hd]; push_cast; rfl
  clear hP hd hl hk
  generalize rev 32 x = y at *
  generalize rev n x = z at *
  go_enter Tryz.func181, Tryz.ntmps181
  go_wp2_with (first | (go_at_call 200; (with_reducible refine HC.out.mono ?_); rintro e w1 ⟨rfl, rfl⟩))
  exact HF.out
end Go.Proofs.YtpjnbhflnbhnoaaGreatDoor
