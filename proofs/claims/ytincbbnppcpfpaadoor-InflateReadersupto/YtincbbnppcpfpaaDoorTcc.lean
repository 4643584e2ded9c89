import Derived.Test.YtincbbnppcpfpaaDoorTca
import Derived.Test.YtincbbnppcpfpaaDoorTak
namespace Go.Proofs.YtincbbnppcpfpaaDoor
open Go.RowKit
set_option linter.unusedVariables false
variable {sb ga cg most p er : Nat} {b out : List By} {og : Option Nat} {vo : Value} {w : World}
set_option maxHeartbeats 8000000 in
theorem hbits_err (h : DsI sb ga cg b most p og vo out er w) (he : er ≠ 0) (n : Nat) : Calls Tryd.prog 36 #[.pointer (some ⟨sb, 0, none⟩), .int .i64 n] w fun e w' => e = .returned (.int .i64 0) ∧ w = w' := by
  obtain ⟨P, hP⟩ : ∃ P : Ending → World → Prop, P = fun e w' => e = .returned (.int .i64 0) ∧ w = w' := ⟨_, rfl⟩
  rw [← hP]
  have x4 := (ds4 h).1
  have HF : Hid (P (.returned (.int .i64 0)) w) := by show P _ _; rw [hP]; exact ⟨rfl, rfl⟩
  have hz := ne0 he
  clear hP h
  go_enter Tryd.func36, Tryd.ntmps36
  go_wp2_with fail
  exact HF.out
set_option maxHeartbeats 8000000 in
theorem hsymbol_err (h : DsI sb ga cg b most p og vo out er w) (he : er ≠ 0) (a : Option Addr) (L c : Nat) : Calls Tryd.prog 48 #[.pointer (some ⟨sb, 0, none⟩), .slice a L c] w fun e w' => e = .returned (.int .i64 0) ∧ w = w' := by
  obtain ⟨P, hP⟩ : ∃ P : Ending → World → Prop, P = fun e w' => e = .returned (.int .i64 0) ∧ w = w' := ⟨_, rfl⟩
  rw [← hP]
  have x4 := (ds4 h).1
  have HF : Hid (P (.returned (.int .i64 0)) w) := by show P _ _; rw [hP]; exact ⟨rfl, rfl⟩
  have hz := ne0 he
  clear hP h
  go_enter Tryd.func48, Tryd.ntmps48
  go_wp2_with fail
  exact HF.out
set_option maxHeartbeats 8000000 in
theorem hput_err (h : DsI sb ga cg b most p og vo out er w) (he : er ≠ 0) (a : Option Addr) (L c : Nat) : Calls Tryd.prog 47 #[.pointer (some ⟨sb, 0, none⟩), .slice a L c] w fun e w' => (∃ r, e = .returned r) ∧ w = w' := by
  obtain ⟨P, hP⟩ : ∃ P : Ending → World → Prop, P = fun e w' => (∃ r, e = .returned r) ∧ w = w' := ⟨_, rfl⟩
  rw [← hP]
  have x4 := (ds4 h).1
  have HF : Hid (∀ r, P (.returned r) w) := fun r => by rw [hP]; exact ⟨⟨_, rfl⟩, rfl⟩
  have hz := ne0 he
  clear hP h
  go_enter Tryd.func47, Tryd.ntmps47
  go_wp2_with fail
  go_end0
  exact HF.out _
theorem Cn.good {β : Type} {R : Rz (β × Bt)} {g : Rdr β} (h : Cn b R 0 p g) : R = g (bt b p) := by
  rcases h with ⟨h, _⟩ | ⟨_, h⟩
  · exact absurd rfl h
  · exact h
theorem Cn.bad {β : Type} {R : Rz (β × Bt)} {g : Rdr β} (h : Cn b R er p g) (he : er ≠ 0) : R = .bad er := by
  rcases h with ⟨_, h⟩ | ⟨h, _⟩
  · exact h
  · exact absurd h he
end Go.Proofs.YtincbbnppcpfpaaDoor
