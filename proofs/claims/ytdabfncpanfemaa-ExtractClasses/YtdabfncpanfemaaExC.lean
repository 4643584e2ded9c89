import Derived.Test.YtdabfncpanfemaaExB
namespace Go.Proofs.Ytdabfncpanfemaa
open Go.RowKit
set_option linter.unusedVariables false
set_option maxRecDepth 100000
set_option maxHeartbeats 4000000 in
theorem classes_walk (w : World) (z : Int) (hz : I64 z) : Calls Try.prog 3 #[.int .i64 z] w fun e w' => e = .returned (.bool true) ∧ Nw w w' := by
  obtain ⟨P, hP⟩ : ∃ P : Ending → World → Prop, P = fun e w' => e = .returned (.bool true) ∧ Nw w w' := ⟨_, rfl⟩
  rw [← hP]
  have HC : Hid (∀ V, Nw w V → Calls Try.prog 4 #[.int .i64 z] V fun e w' => e = .returned (.int .i64 (clsF z)) ∧ Hid (Nw w w')) := fun V hV => (class_any z hz V).mono fun e w' h => ⟨h.1, hV.trans h.2⟩
  have H0 : Hid (∀ V, Nw w V → Calls Try.prog 4 #[.int .i64 0] V fun e w' => e = .returned (.int .i64 0) ∧ Hid (Nw w w')) := fun V hV => (class_any 0 (by unfold I64; omega) V).mono fun e w' h => ⟨h.1, hV.trans h.2⟩
  have H1 : Hid (∀ V, Nw w V → Calls Try.prog 4 #[.int .i64 111] V fun e w' => e = .returned (.int .i64 202) ∧ Hid (Nw w w')) := fun V hV => (class_any 111 (by unfold I64; omega) V).mono fun e w' h => ⟨h.1, hV.trans h.2⟩
  have HR : Hid (∀ V, Calls Try.prog 5 #[.int .i64 z] V fun e w' => e = .returned (.int .i64 (clsF z)) ∧ V = w') := fun V => rclass_any z V
  have HF : Hid (∀ V, Nw w V → P (.returned (.bool true)) V) := fun V hV => by rw [hP]; exact ⟨rfl, hV⟩
  clear hP
  generalize hg : clsF z = g at *
  clear hg
  go_enter Try.func3, Try.ntmps3
  go_wp2_with (first
    | (go_at_call 4; with_reducible refine (HC.out _ (Fr.refl _ _)).mono ?_; rintro e w1 ⟨rfl, K1⟩)
    | (go_at_call 5; with_reducible refine (HR.out _).mono ?_; rintro e w2 ⟨rfl, rfl⟩)
    | (go_at_call 4; with_reducible refine (H0.out _ K1.out).mono ?_; rintro e w3 ⟨rfl, K3⟩)
    | (go_at_call 4; with_reducible refine (H1.out _ K3.out).mono ?_; rintro e w4 ⟨rfl, K4⟩)
    | fail)
  exact HF.out _ K4.out
end Go.Proofs.Ytdabfncpanfemaa
