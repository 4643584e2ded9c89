import Derived.Test.YtenkchhlaphocaaGreatDoorNkA
namespace Go.Proofs.YtenkchhlaphocaaGreatDoor
open Go.RowKit
set_option linter.unusedVariables false
/-! ### The document's examples -/
def LX : Pr := ([112#8, 97#8, 116#8, 104#8], [97#8])
theorem lx_e : prE [LX] = 0 := by decide +kernel
theorem lx_p : prt [LX] = [57#8, 32#8, 112#8, 97#8, 116#8, 104#8, 61#8, 97#8, 10#8] := by
  have : lng LX = 9 := by decide +kernel
  simp only [prt, rec1, this, dec_small (by decide : 9 < 10)]
  rfl
theorem lb_p : prs [53#8, 32#8, 97#8, 61#8, 10#8] 0 [] = ([([97#8], [])], 0, 0) := by
  rw [prs_ok _ 0 [] (by decide) ([97#8], []) 5 (by rfl), prs_end _ _ _ (by decide)]
  rfl
theorem lt_v : timV [45#8, 49#8, 46#8, 53#8] = (-2, 500000000, 0) := by decide +kernel
theorem lp_v : putV (-1) 500000000 = ([45#8, 48#8, 46#8, 53#8], 0) := by
  have h1 : dec 0 = [48#8] := dec_small (by decide)
  have h2 : dec 1500000000 = [49#8, 53#8, 48#8, 48#8, 48#8, 48#8, 48#8, 48#8, 48#8, 48#8] := by
    rw [dec_big (by decide), dec_big (by decide), dec_big (by decide), dec_big (by decide), dec_big (by decide), dec_big (by decide), dec_big (by decide), dec_big (by decide), dec_big (by decide), dec_small (by decide)]
    rfl
  unfold putV
  rw [if_neg (by decide), if_neg (by decide), if_pos (by decide)]
  have h3 : dotV (1000000000 - (500000000 : Int).toNat) = [46#8, 53#8] := by
    show dotV 500000000 = _
    unfold dotV
    rw [if_neg (by decide), show 1000000000 + 500000000 = 1500000000 from rfl, h2]
    rfl
  rw [h3, show ((-1 : Int).natAbs - 1) = 0 from rfl, h1]
  rfl
end Go.Proofs.YtenkchhlaphocaaGreatDoor
