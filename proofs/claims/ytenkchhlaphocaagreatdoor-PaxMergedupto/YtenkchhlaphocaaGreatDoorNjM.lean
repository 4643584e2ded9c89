import Derived.Test.YtenkchhlaphocaaGreatDoorNjL
namespace Go.Proofs.YtenkchhlaphocaaGreatDoor
open Go.RowKit
set_option linter.unusedVariables false
/-! ### The document's record -/
theorem eqAt_app (k r : Bs) (h : 61#8 ∉ k) : eqAt (k ++ 61#8 :: r) = (k.length : Int) := by
  rcases eqAt_cut (k ++ 61#8 :: r) with ⟨h1, _⟩ | ⟨x, h1, h2, _⟩
  · rw [cutE_app k r h] at h1; cases h1
  · rw [cutE_app k r h] at h1; injection h1 with h1; rw [h2, ← h1]
theorem eqAt_no (l : Bs) (h : 61#8 ∉ l) : eqAt l = -1 := by
  rcases eqAt_cut l with ⟨_, h1, _⟩ | ⟨x, h1, h2, h3, _⟩
  · exact h1
  · exact absurd (by rw [h3]; simp) h
theorem nth_eq (y : By) (k : Nat) (hk : k < 256) : ((y.toNat : Int) == (k : Int)) = decide (y = BitVec.ofNat 8 k) := by
  by_cases h : y = BitVec.ofNat 8 k
  · subst h
    rw [BitVec.toNat_ofNat, Nat.mod_eq_of_lt hk]
    simp
  · rw [decide_eq_false h, beq_eq_false_iff_ne]
    intro e
    apply h
    apply BitVec.eq_of_toNat_eq
    rw [BitVec.toNat_ofNat, Nat.mod_eq_of_lt hk]
    omega
end Go.Proofs.YtenkchhlaphocaaGreatDoor
