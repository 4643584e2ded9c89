import Derived.Test.YtenkchhlaphocaaGreatDoorNkI
namespace Go.Proofs.YtenkchhlaphocaaGreatDoor
open Go.RowKit
set_option linter.unusedVariables false
/-! ### The document's Number, PutNumber -/
theorem numV_bad (l : Bs) (c : By) (hm : c ∈ l) (h : ¬ isD c) : numV l = (0, 120) := by
  unfold numV
  have : allD l = false := by unfold allD; exact decide_eq_false (fun hh => h (hh c hm))
  rw [if_pos (.inr this)]
theorem take_all (l : Bs) (I : Nat) (h : I < l.length) (Q : By → Prop) (h1 : ∀ c ∈ l.take I, Q c) (h2 : Q l[I]) : ∀ c ∈ l.take (I + 1), Q c := by
  intro c hc
  rw [List.take_add_one, List.getElem?_eq_getElem h, Option.toList_some] at hc
  rcases List.mem_append.1 hc with hc | hc
  · exact h1 c hc
  · rw [List.mem_singleton] at hc
    rw [hc]; exact h2
theorem val_take (l : Bs) (I : Nat) (h : I < l.length) : val 0 (l.take (I + 1)) = val 0 (l.take I) * 10 + (l[I].toNat - 48) := by
  rw [List.take_add_one, List.getElem?_eq_getElem h, Option.toList_some, val_app]
  rfl
theorem val_take_le (l : Bs) (I : Nat) : val 0 (l.take I) ≤ val 0 l := by
  conv => rhs; rw [← List.take_append_drop I l, val_app]
  exact val_ge _ _
end Go.Proofs.YtenkchhlaphocaaGreatDoor
