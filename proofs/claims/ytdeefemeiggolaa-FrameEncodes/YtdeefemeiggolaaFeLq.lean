import Derived.Test.YtdeefemeiggolaaFeKq
namespace Go.Proofs.Ytdeefemeiggolaa
open Go.RowKit
set_option linter.unusedVariables false
/-! ### laid refuses -/
set_option maxHeartbeats 4000000 in
set_option maxRecDepth 100000 in
theorem laid_arg (w : World) (a : Option Addr) (n c : Nat) (k : Int) (b1 b2 b3 b4 : Bool) (h : k < 4 ∨ 7 < k) :
    Calls Try.prog 11 #[.slice a n c, .agg #[.int .i64 k, .bool b1, .bool b2, .bool b3, .bool b4]] w fun e w' => e = .returned (.tuple #[.slice none 0 0, .int .i64 1]) ∧ Nw w w' := by
  obtain ⟨P, hP⟩ : ∃ P : Ending → World → Prop, P = fun e w' => e = .returned (.tuple #[.slice none 0 0, .int .i64 1]) ∧ Nw w w' := ⟨_, rfl⟩
  rw [← hP]
  have HC : Hid (Calls Try.prog 23 #[.agg #[.int .i64 k, .bool b1, .bool b2, .bool b3, .bool b4]] (w.alloc (.cells #[.int .i64 k, .bool b1, .bool b2, .bool b3, .bool b4] 24)) fun e w1 => e = .returned (.bool false) ∧ Hid (P (.returned (.tuple #[.slice none 0 0, .int .i64 1])) w1)) := by
    show Calls _ _ _ _ _
    refine (dCan_any _ k b1 b2 b3 b4).mono ?_
    rintro e w1 ⟨rfl, hN⟩
    refine ⟨by rw [decide_eq_false (by omega)], ?_⟩
    show P _ _
    rw [hP]
    exact ⟨rfl, Fr.trans ((Fr.refl _ _).alloc _) hN⟩
  clear hP h
  go_enter Try.func11, Try.ntmps11
  go_wp2_with (first | (go_at_call 23; with_reducible refine HC.out.mono ?_; rintro e w1 ⟨rfl, HF⟩))
  exact HF.out
set_option maxHeartbeats 4000000 in
set_option maxRecDepth 100000 in
theorem laid_long (w : World) (a : Option Addr) (n c : Nat) (k : Int) (b1 b2 b3 b4 : Bool) (h1 : 4 ≤ k) (h2 : k ≤ 7) (h : 4194304 < n) :
    Calls Try.prog 11 #[.slice a n c, .agg #[.int .i64 k, .bool b1, .bool b2, .bool b3, .bool b4]] w fun e w' => e = .returned (.tuple #[.slice none 0 0, .int .i64 2]) ∧ Nw w w' := by
  obtain ⟨P, hP⟩ : ∃ P : Ending → World → Prop, P = fun e w' => e = .returned (.tuple #[.slice none 0 0, .int .i64 2]) ∧ Nw w w' := ⟨_, rfl⟩
  rw [← hP]
  have HC : Hid (Calls Try.prog 23 #[.agg #[.int .i64 k, .bool b1, .bool b2, .bool b3, .bool b4]] (w.alloc (.cells #[.int .i64 k, .bool b1, .bool b2, .bool b3, .bool b4] 24)) fun e w1 => e = .returned (.bool true) ∧ Hid (P (.returned (.tuple #[.slice none 0 0, .int .i64 2])) w1)) := by
    show Calls _ _ _ _ _
    refine (dCan_any _ k b1 b2 b3 b4).mono ?_
    rintro e w1 ⟨rfl, hN⟩
    refine ⟨by rw [decide_eq_true ⟨h1, h2⟩], ?_⟩
    show P _ _
    rw [hP]
    exact ⟨rfl, Fr.trans ((Fr.refl _ _).alloc _) hN⟩
  have hz : (4194304 : Int) < (n : Int) := by omega
  clear hP h1 h2
  go_enter Try.func11, Try.ntmps11
  go_wp2_with (first | (go_at_call 23; with_reducible refine HC.out.mono ?_; rintro e w1 ⟨rfl, HF⟩))
  exact HF.out
end Go.Proofs.Ytdeefemeiggolaa
