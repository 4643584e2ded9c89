import Derived.Test.YtdeefemeiggolaaFeIq
import Derived.Test.YtdeefemeiggolaaFbAq
namespace Go.Proofs.Ytdeefemeiggolaa
open Go.RowKit
set_option linter.unusedVariables false
/-! ### hand, Can -/
def mk5 : List By := [1#8, 2#8, 3#8, 4#8, 5#8]
set_option maxHeartbeats 4000000 in
set_option maxRecDepth 100000 in
theorem hand_any (w : World) (vb : Value) (b : List By) (hb : Old w vb b) (hbl : b.length ≤ 140737488351232) :
    Calls Try.prog 9 #[vb] w fun e w' => ∃ g c, e = .returned (.slice (some ⟨g, 0, none⟩) (b.length + 5) c) ∧ Ow g (.slice (some ⟨g, 0, none⟩) (b.length + 5) c) (b ++ mk5) w' ∧ w.heap.size ≤ g ∧ Nw w w' := by
  obtain ⟨P, hP⟩ : ∃ P : Ending → World → Prop, P = fun e w' => ∃ g c, e = .returned (.slice (some ⟨g, 0, none⟩) (b.length + 5) c) ∧ Ow g (.slice (some ⟨g, 0, none⟩) (b.length + 5) c) (b ++ mk5) w' ∧ w.heap.size ≤ g ∧ Nw w w' := ⟨_, rfl⟩
  rw [← hP]
  obtain ⟨g1, c1, W1, hap1, hO1, hg1, hN1⟩ := copyB w _ b hb (by omega)
  have hN2 : Nw W1 (W1.alloc (.cells #[.int .u8 1, .int .u8 2, .int .u8 3, .int .u8 4, .int .u8 5] 5)) := (Fr.refl _ _).alloc _
  have hB2 : Bw W1.heap.size mk5 (W1.alloc (.cells #[.int .u8 1, .int .u8 2, .int .u8 3, .int .u8 4, .int .u8 5] 5)) := by
    show (W1.heap.push _)[W1.heap.size]? = _
    rw [Array.getElem?_push_size]; rfl
  have hO2 : Ow W1.heap.size (.slice (some ⟨W1.heap.size, 0, none⟩) 5 5) mk5 (W1.alloc (.cells #[.int .u8 1, .int .u8 2, .int .u8 3, .int .u8 4, .int .u8 5] 5)) := ⟨mk5, rfl, rfl, by decide, by decide, hB2⟩
  obtain ⟨v3, g3, W3, hap3, hO3, hF3, hg3⟩ := app_any _ g1 _ b (hO1.nw hN2) _ mk5 (.inr ⟨_, fun h => h, hO2.slb⟩) (by simp [mk5]; omega)
  have hO3' := hO3
  obtain ⟨xs, rfl, _⟩ := hO3'
  have hlm : (b ++ mk5).length = b.length + 5 := by simp [mk5]
  rw [hlm] at hap3 hO3
  have HAP1 := hap1
  have HAP3 : Hid (∀ ty, _) := hap3
  have hsz : (W1.alloc (.cells #[.int .u8 1, .int .u8 2, .int .u8 3, .int .u8 4, .int .u8 5] 5)).heap.size = W1.heap.size + 1 := by simp
  have HF : Hid (P (.returned (.slice (some ⟨g3, 0, none⟩) (b.length + 5) xs.length)) W3) := by
    show P _ _
    rw [hP]
    have hs1 := hN1.size
    refine ⟨g3, xs.length, rfl, hO3, ?_, Fr.then (hN1.trans hN2) hF3 (fun k hk => .inr (by omega))⟩
    rcases hg3 with h | h <;> omega
  obtain ⟨a, c, rfl, _, _⟩ := hb.form
  clear hP hb hap1 hO1 hN1 hN2 hB2 hO2 hap3 hO3 hF3 hg3 hg1 hlm hsz
  generalize b.length = L at *
  generalize xs.length = C at *
  go_enter Try.func9, Try.ntmps9
  go_wp2_with (first | (at_builtin; refine Lib.wpList_append_run _ rfl _ _ 22 22 rfl (.slice (some ⟨w.heap.size, 0, none⟩) 0 0) (.slice a L c) (by simp [Act.eval]) (by simp [Act.eval]) _ _ (HAP1.out _) ?_) | (at_builtin; refine Lib.wpList_append_run _ rfl _ _ 22 22 rfl (.slice (some ⟨g1, 0, none⟩) L c1) (.slice (some ⟨W1.heap.size, 0, none⟩) 5 5) (by simp [Act.eval]) (by simp [Act.eval]) _ _ (HAP3.out _) ?_))
  exact HF.out
set_option maxRecDepth 100000 in
theorem dCan_any (w : World) (k : Int) (b1 b2 b3 b4 : Bool) : Calls Try.prog 23 #[.agg #[.int .i64 k, .bool b1, .bool b2, .bool b3, .bool b4]] w fun e w' => e = .returned (.bool (decide (4 ≤ k ∧ k ≤ 7))) ∧ Nw w w' := by
  have hN : Hid (∀ o, Nw w (w.alloc o)) := fun o => (Fr.refl _ _).alloc o
  by_cases h1 : 4 ≤ k
  · by_cases h2 : k ≤ 7
    · rw [decide_eq_true ⟨h1, h2⟩]
      go_enter Try.func23, Try.ntmps23
      go_wp2
      try go_ret
      exact ⟨by simp, hN.out _⟩
    · rw [decide_eq_false (fun h => h2 h.2)]
      go_enter Try.func23, Try.ntmps23
      go_wp2
      try go_ret
      exact ⟨by simp, hN.out _⟩
  · rw [decide_eq_false (fun h => h1 h.1)]
    go_enter Try.func23, Try.ntmps23
    go_wp2
    try go_ret
    exact ⟨by simp, hN.out _⟩
end Go.Proofs.Ytdeefemeiggolaa
