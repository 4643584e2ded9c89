import Derived.Test.YtenkchhlaphocaaGreatDoorNkZ
import Derived.Test.YtenkchhlaphocaaGreatDoorNkC
import Derived.Test.YtenkchhlaphocaaGreatDoorNjP
import Derived.Test.YtenkchhlaphocaaGreatDoorNkG
namespace Go.Proofs.YtenkchhlaphocaaGreatDoor
open Go.RowKit
set_option linter.unusedVariables false
/-! ### PaxMerged -/
instance (l : List Pr) : Decidable (fullV l) := by unfold fullV; infer_instance
set_option maxHeartbeats 8000000 in
set_option maxRecDepth 100000 in
theorem full_any14 {X : Nat → Prop} (w : World) (va : Value) (l : List Pr) (hl : SlR RP X va l w) (hn : l.length ≤ 1000000000) : Calls Tryz.prog 5 #[va] w fun e V => e = .returned (.bool (decide (fullV l))) ∧ Hid (Nw w V) := by
  obtain ⟨P, hP⟩ : ∃ P : Ending → World → Prop, P = fun e V => e = .returned (.bool (decide (fullV l))) ∧ Hid (Nw w V) := ⟨_, rfl⟩
  rw [← hP]
  have HF : Hid (∀ V B, Nw w V → decide (fullV l) = B → P (.returned (.bool B)) V) := fun V B h1 h2 => by rw [hP, h2]; exact ⟨rfl, h1⟩
  clear hP
  obtain ⟨a, c, rfl, k1, k2, _⟩ := hl.form
  have HL := tHid hl
  clear hl
  go_enter Tryz.func5, Tryz.ntmps5
  go_upto_region 1 with fail
  go_wp2_with fail
  go_loopg [3] l.length (fun kx i wr => ∃ I : Nat, I ≤ l.length ∧ l.length - I ≤ kx ∧ i = .int .i64 (I : Int) ∧ Hid (Nw w wr ∧ ∀ j, j < I → (hj : j < l.length) → l[j].2 ≠ []))
  case atStart => exact ⟨0, by omega, by omega, rfl, Fr.refl _ _, fun j h => by omega⟩
  case round =>
    obtain ⟨I, hI, hkx, rfl, HI⟩ := hrel
    by_cases hlt : I < l.length
    · have hlti : (I : Int) < (l.length : Int) := by omega
      obtain ⟨g, o, rfl, _, x0, x1⟩ := rp_at (HL.out.nw HI.out.1) I hlt
      obtain ⟨y, hy⟩ : ∃ y, l[I]'hlt = y := ⟨_, rfl⟩
      rw [hy] at x0 x1
      have bq := str_emp2 y.2
      by_cases h0 : y.2 = []
      · rw [decide_eq_true h0] at bq
        have HE := tHid (HF.out wr false HI.out.1 (decide_eq_false (fun h => h y (by rw [← hy]; exact List.getElem_mem hlt) h0)))
        clear HF HI hy h0
        generalize str y.2 = s2 at *
        go_wp2_with fail
        first | exact HE.out | (go_ret; exact HE.out)
      · rw [decide_eq_false h0] at bq
        have HNX : Hid (Nw w wr ∧ ∀ j, j < I + 1 → (hj : j < l.length) → l[j].2 ≠ []) := ⟨HI.out.1, fun j hj hjl => by
          by_cases e : j = I
          · subst e; rw [hy]; exact h0
          · exact HI.out.2 j (by omega) hjl⟩
        clear HF HI hy h0
        generalize str y.2 = s2 at *
        go_wp2_with fail
        go_roundg (l.length - (I + 1))
        case measure => omega
        case rel => exact ⟨I + 1, by omega, by omega, by first | rfl | simp, HNX⟩
    · have hlti : ¬ (I : Int) < (l.length : Int) := by omega
      have HE := tHid (HF.out wr true HI.out.1 (decide_eq_true (fun y hy => by
        obtain ⟨j, hj, e⟩ := List.getElem_of_mem hy
        rw [← e]; exact HI.out.2 j (by omega) hj)))
      clear HF HI
      go_wp2_with fail
      first | exact HE.out | (go_ret; exact HE.out)
end Go.Proofs.YtenkchhlaphocaaGreatDoor
