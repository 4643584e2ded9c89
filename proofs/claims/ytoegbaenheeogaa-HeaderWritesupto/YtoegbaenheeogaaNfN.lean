import Derived.Test.YtoegbaenheeogaaNfC
import Derived.Lib.MinMax
namespace Go.Proofs.Ytoegbaenheeogaa
open Go.RowKit
set_option linter.unusedVariables false
set_option maxHeartbeats 2000000
set_option maxRecDepth 100000
theorem mul64_any (y : Nat) (hy : y ≤ 65535) (w : World) : Calls Try.prog 82 #[.int .u64 1, .int .u64 y] w fun e w' => e = .returned (.tuple #[.int .u64 0, .int .u64 y]) ∧ w' = w := by
  have h1 : bits .and .u64 (y : Int) 4294967295 = (y : Int) := by
    have := u64_and_nat y 4294967295 (by omega) (by decide)
    rw [show ((4294967295 : Nat) : Int) = 4294967295 from rfl] at this
    rw [this]
    congr 1
    have e := Nat.and_two_pow_sub_one_eq_mod y 32
    rw [show 2 ^ 32 - 1 = 4294967295 by decide] at e
    rw [e]; omega
  have h2 : bits .and .u64 1 4294967295 = 1 := by decide
  have h3 : bits .and .u64 0 4294967295 = 0 := by decide
  have h4 : (y : Int) / 4294967296 = 0 := by omega
  obtain ⟨P, hP⟩ : ∃ P : Ending → World → Prop, P = fun e w' => e = .returned (.tuple #[.int .u64 0, .int .u64 y]) ∧ w' = w := ⟨_, rfl⟩
  rw [← hP]
  have HF : Hid (P (.returned (.tuple #[.int .u64 0, .int .u64 y])) w) := by
    show P _ _
    rw [hP]; exact ⟨rfl, rfl⟩
  clear hP
  go_enter Try.func82, Try.ntmps82
  go_wp2
  exact HF.out
theorem mul_any (y : Nat) (hy : y ≤ 65535) (w : World) : Calls Try.prog 70 #[.int .u64 1, .int .u64 y] w fun e w' => e = .returned (.tuple #[.int .u64 0, .int .u64 y]) ∧ w' = w := by
  obtain ⟨P, hP⟩ : ∃ P : Ending → World → Prop, P = fun e w' => e = .returned (.tuple #[.int .u64 0, .int .u64 y]) ∧ w' = w := ⟨_, rfl⟩
  rw [← hP]
  have HF : Hid (P (.returned (.tuple #[.int .u64 0, .int .u64 y])) w) := by
    show P _ _
    rw [hP]; exact ⟨rfl, rfl⟩
  have HC : Hid (Calls Try.prog 82 #[.int .u64 1, .int .u64 y] w fun e w' => e = .returned (.tuple #[.int .u64 0, .int .u64 y]) ∧ w' = w) := mul64_any y hy w
  clear hP
  go_enter Try.func70, Try.ntmps70
  go_wp2_with (first | (go_at_call 82; (with_reducible refine HC.out.mono ?_); rintro e w1 ⟨rfl, rfl⟩))
  exact HF.out
/-- A string of many blanks begins with one. -/
theorem slhp32 (s : ByteArray) (w : World) (h1 : s.size = 128) (h2 : s.extract 0 1 = ⟨#[32]⟩) : Calls Try.prog 83 #[.string s, .string ⟨#[32]⟩] w fun e w' => e = .returned (.bool true) ∧ w = w' := by
  obtain ⟨P, hP⟩ : ∃ P : Ending → World → Prop, P = fun e w' => e = .returned (.bool true) ∧ w = w' := ⟨_, rfl⟩
  rw [← hP]
  have HF : Hid (P (.returned (.bool true)) w) := by rw [hP]; exact ⟨rfl, rfl⟩
  obtain ⟨sp, hsp⟩ : ∃ sp : ByteArray, sp = ⟨#[32]⟩ := ⟨_, rfl⟩
  rw [← hsp] at h2 ⊢
  have hz : sp.size = 1 := by rw [hsp]; rfl
  have hb : (sp.toList == sp.toList) = true := by simp
  have z1 : (1 : Int) ≤ (s.size : Int) := by omega
  have z2 : 1 ≤ s.size := by omega
  clear hP hsp
  go_enter Try.func83, Try.ntmps83
  go_wp2_with fail
  exact HF.out
theorem hp32 (s : ByteArray) (w : World) (h1 : s.size = 128) (h2 : s.extract 0 1 = ⟨#[32]⟩) : Calls Try.prog 71 #[.string s, .string ⟨#[32]⟩] w fun e w' => e = .returned (.bool true) ∧ w = w' := by
  obtain ⟨P, hP⟩ : ∃ P : Ending → World → Prop, P = fun e w' => e = .returned (.bool true) ∧ w = w' := ⟨_, rfl⟩
  rw [← hP]
  have HF : Hid (P (.returned (.bool true)) w) := by rw [hP]; exact ⟨rfl, rfl⟩
  have HJ := tHid (slhp32 s w h1 h2)
  clear hP h1 h2
  go_enter Try.func71, Try.ntmps71
  go_wp2_with (first | (go_at_call 83; with_reducible refine HJ.out.mono ?_; rintro e w1 ⟨rfl, rfl⟩))
  exact HF.out
/-- Eight blanks. -/
def bl8 : ByteArray := ⟨#[32, 32, 32, 32, 32, 32, 32, 32]⟩
theorem repeat8 (w : World) : Calls Try.prog 65 #[.string ⟨#[32]⟩, .int .i64 8] w fun e w' => e = .returned (.string bl8) ∧ w = w' := by
  obtain ⟨P, hP⟩ : ∃ P : Ending → World → Prop, P = fun e w' => e = .returned (.string bl8) ∧ w = w' := ⟨_, rfl⟩
  rw [← hP]
  have HF : Hid (∀ X, X = bl8 → P (.returned (.string X)) w) := fun X hX => by rw [hP, hX]; exact ⟨rfl, rfl⟩
  have HM : Hid (Calls Try.prog 70 #[.int .u64 1, .int .u64 8] w fun e w' => e = .returned (.tuple #[.int .u64 0, .int .u64 8]) ∧ w' = w) := mul_any 8 (by decide) w
  obtain ⟨sp, hsp⟩ : ∃ sp : ByteArray, sp = ⟨#[32]⟩ := ⟨_, rfl⟩
  have HH : Hid (∀ (s : ByteArray), s.size = 128 → s.extract 0 1 = ⟨#[32]⟩ → Calls Try.prog 71 #[.string s, .string sp] w fun e w' => e = .returned (.bool true) ∧ w = w') := by
    rw [hsp]; exact fun s h1 h2 => hp32 s w h1 h2
  rw [← hsp]
  have hz : sp.size = 1 := by rw [hsp]; rfl
  have e0 : ∀ h, (sp[0]'h).toNat = 32 := by subst hsp; intro h; rfl
  clear hP hsp
  go_enter Try.func65, Try.ntmps65
  go_wp2_with (first
    | (go_at_call 70; with_reducible refine HM.out.mono ?_; rintro e w1 ⟨rfl, hw⟩; replace hw := hw.symm; subst hw)
    | (go_at_call 71; with_reducible refine (HH.out _ (by with_unfolding_all rfl) (by with_unfolding_all rfl)).mono ?_; rintro e w1 ⟨rfl, rfl⟩))
  exact HF.out _ (by rfl)
end Go.Proofs.Ytoegbaenheeogaa
