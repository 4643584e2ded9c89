import Derived.Test.YtdabfncpanfemaaExA
namespace Go.Proofs.Ytdabfncpanfemaa
open Go.RowKit
set_option linter.unusedVariables false
set_option maxRecDepth 100000
/-! ### The document's closed list -/
theorem cls_cases (z : Int) : (z = 0 ∨ z = 4 ∨ z = 2 ∨ z = 120 ∨ z = 121 ∨ z = 130 ∨ z = 131 ∨ z = 132 ∨ z = 140 ∨ z = 141 ∨ z = 142 ∨ z = 160 ∨ z = 161 ∨ z = 3 ∨ z = 192 ∨ z = 90 ∨ z = 91 ∨ z = 92 ∨ z = 93 ∨ z = 94 ∨ z = 95 ∨ z = 190 ∨ z = 107 ∨ z = 103 ∨ z = 110 ∨ z = 111 ∨ z = 112 ∨ z = 114 ∨ z = 104 ∨ z = 106 ∨ z = 191 ∨ z = 180 ∨ z = 181 ∨ z = 182 ∨ z = 193 ∨ z = 105) ∨ ((z == 0) = false ∧ (z == 4) = false ∧ (z == 2) = false ∧ (z == 120) = false ∧ (z == 121) = false ∧ (z == 130) = false ∧ (z == 131) = false ∧ (z == 132) = false ∧ (z == 140) = false ∧ (z == 141) = false ∧ (z == 142) = false ∧ (z == 160) = false ∧ (z == 161) = false ∧ (z == 3) = false ∧ (z == 192) = false ∧ (z == 90) = false ∧ (z == 91) = false ∧ (z == 92) = false ∧ (z == 93) = false ∧ (z == 94) = false ∧ (z == 95) = false ∧ (z == 190) = false ∧ (z == 107) = false ∧ (z == 103) = false ∧ (z == 110) = false ∧ (z == 111) = false ∧ (z == 112) = false ∧ (z == 114) = false ∧ (z == 104) = false ∧ (z == 106) = false ∧ (z == 191) = false ∧ (z == 180) = false ∧ (z == 181) = false ∧ (z == 182) = false ∧ (z == 193) = false ∧ (z == 105) = false) := by
  simp only [beq_eq_false_iff_ne, ne_eq]
  omega
theorem cls_none (z : Int) (h : (z == 0) = false ∧ (z == 4) = false ∧ (z == 2) = false ∧ (z == 120) = false ∧ (z == 121) = false ∧ (z == 130) = false ∧ (z == 131) = false ∧ (z == 132) = false ∧ (z == 140) = false ∧ (z == 141) = false ∧ (z == 142) = false ∧ (z == 160) = false ∧ (z == 161) = false ∧ (z == 3) = false ∧ (z == 192) = false ∧ (z == 90) = false ∧ (z == 91) = false ∧ (z == 92) = false ∧ (z == 93) = false ∧ (z == 94) = false ∧ (z == 95) = false ∧ (z == 190) = false ∧ (z == 107) = false ∧ (z == 103) = false ∧ (z == 110) = false ∧ (z == 111) = false ∧ (z == 112) = false ∧ (z == 114) = false ∧ (z == 104) = false ∧ (z == 106) = false ∧ (z == 191) = false ∧ (z == 180) = false ∧ (z == 181) = false ∧ (z == 182) = false ∧ (z == 193) = false ∧ (z == 105) = false) : clsF z = 206 := by
  simp only [beq_eq_false_iff_ne, ne_eq] at h
  obtain ⟨h0, h1, h2, h3, h4, h5, h6, h7, h8, h9, h10, h11, h12, h13, h14, h15, h16, h17, h18, h19, h20, h21, h22, h23, h24, h25, h26, h27, h28, h29, h30, h31, h32, h33, h34, h35⟩ := h
  simp only [clsF, clsL, lkQ, h0, h1, h2, h3, h4, h5, h6, h7, h8, h9, h10, h11, h12, h13, h14, h15, h16, h17, h18, h19, h20, h21, h22, h23, h24, h25, h26, h27, h28, h29, h30, h31, h32, h33, h34, h35, if_false]
  rfl
set_option maxHeartbeats 8000000 in
theorem rclass_any (z : Int) (w : World) : Calls Try.prog 5 #[.int .i64 z] w fun e w' => e = .returned (.int .i64 (clsF z)) ∧ w = w' := by
  obtain ⟨P, hP⟩ : ∃ P : Ending → World → Prop, P = fun e w' => e = .returned (.int .i64 (clsF z)) ∧ w = w' := ⟨_, rfl⟩
  rw [← hP]
  have HF : Hid (∀ g, clsF z = g → P (.returned (.int .i64 g)) w) := fun g hg => by rw [hP, hg]; exact ⟨rfl, rfl⟩
  clear hP
  rcases cls_cases z with (h | h | h | h | h | h | h | h | h | h | h | h | h | h | h | h | h | h | h | h | h | h | h | h | h | h | h | h | h | h | h | h | h | h | h | h) | h
  · subst h
    go_enter Try.func5, Try.ntmps5
    go_wp2_with fail
    exact HF.out _ rfl
  · subst h
    go_enter Try.func5, Try.ntmps5
    go_wp2_with fail
    exact HF.out _ rfl
  · subst h
    go_enter Try.func5, Try.ntmps5
    go_wp2_with fail
    exact HF.out _ rfl
  · subst h
    go_enter Try.func5, Try.ntmps5
    go_wp2_with fail
    exact HF.out _ rfl
  · subst h
    go_enter Try.func5, Try.ntmps5
    go_wp2_with fail
    exact HF.out _ rfl
  · subst h
    go_enter Try.func5, Try.ntmps5
    go_wp2_with fail
    exact HF.out _ rfl
  · subst h
    go_enter Try.func5, Try.ntmps5
    go_wp2_with fail
    exact HF.out _ rfl
  · subst h
    go_enter Try.func5, Try.ntmps5
    go_wp2_with fail
    exact HF.out _ rfl
  · subst h
    go_enter Try.func5, Try.ntmps5
    go_wp2_with fail
    exact HF.out _ rfl
  · subst h
    go_enter Try.func5, Try.ntmps5
    go_wp2_with fail
    exact HF.out _ rfl
  · subst h
    go_enter Try.func5, Try.ntmps5
    go_wp2_with fail
    exact HF.out _ rfl
  · subst h
    go_enter Try.func5, Try.ntmps5
    go_wp2_with fail
    exact HF.out _ rfl
  · subst h
    go_enter Try.func5, Try.ntmps5
    go_wp2_with fail
    exact HF.out _ rfl
  · subst h
    go_enter Try.func5, Try.ntmps5
    go_wp2_with fail
    exact HF.out _ rfl
  · subst h
    go_enter Try.func5, Try.ntmps5
    go_wp2_with fail
    exact HF.out _ rfl
  · subst h
    go_enter Try.func5, Try.ntmps5
    go_wp2_with fail
    exact HF.out _ rfl
  · subst h
    go_enter Try.func5, Try.ntmps5
    go_wp2_with fail
    exact HF.out _ rfl
  · subst h
    go_enter Try.func5, Try.ntmps5
    go_wp2_with fail
    exact HF.out _ rfl
  · subst h
    go_enter Try.func5, Try.ntmps5
    go_wp2_with fail
    exact HF.out _ rfl
  · subst h
    go_enter Try.func5, Try.ntmps5
    go_wp2_with fail
    exact HF.out _ rfl
  · subst h
    go_enter Try.func5, Try.ntmps5
    go_wp2_with fail
    exact HF.out _ rfl
  · subst h
    go_enter Try.func5, Try.ntmps5
    go_wp2_with fail
    exact HF.out _ rfl
  · subst h
    go_enter Try.func5, Try.ntmps5
    go_wp2_with fail
    exact HF.out _ rfl
  · subst h
    go_enter Try.func5, Try.ntmps5
    go_wp2_with fail
    exact HF.out _ rfl
  · subst h
    go_enter Try.func5, Try.ntmps5
    go_wp2_with fail
    exact HF.out _ rfl
  · subst h
    go_enter Try.func5, Try.ntmps5
    go_wp2_with fail
    exact HF.out _ rfl
  · subst h
    go_enter Try.func5, Try.ntmps5
    go_wp2_with fail
    exact HF.out _ rfl
  · subst h
    go_enter Try.func5, Try.ntmps5
    go_wp2_with fail
    exact HF.out _ rfl
  · subst h
    go_enter Try.func5, Try.ntmps5
    go_wp2_with fail
    exact HF.out _ rfl
  · subst h
    go_enter Try.func5, Try.ntmps5
    go_wp2_with fail
    exact HF.out _ rfl
  · subst h
    go_enter Try.func5, Try.ntmps5
    go_wp2_with fail
    exact HF.out _ rfl
  · subst h
    go_enter Try.func5, Try.ntmps5
    go_wp2_with fail
    exact HF.out _ rfl
  · subst h
    go_enter Try.func5, Try.ntmps5
    go_wp2_with fail
    exact HF.out _ rfl
  · subst h
    go_enter Try.func5, Try.ntmps5
    go_wp2_with fail
    exact HF.out _ rfl
  · subst h
    go_enter Try.func5, Try.ntmps5
    go_wp2_with fail
    exact HF.out _ rfl
  · subst h
    go_enter Try.func5, Try.ntmps5
    go_wp2_with fail
    exact HF.out _ rfl
  · have HZ : Hid (clsF z = 206) := cls_none z h
    obtain ⟨h0, h1, h2, h3, h4, h5, h6, h7, h8, h9, h10, h11, h12, h13, h14, h15, h16, h17, h18, h19, h20, h21, h22, h23, h24, h25, h26, h27, h28, h29, h30, h31, h32, h33, h34, h35⟩ := h
    go_enter Try.func5, Try.ntmps5
    go_wp2_with fail
    exact HF.out _ HZ.out
end Go.Proofs.Ytdabfncpanfemaa
