import Derived.Test.YtfmghmidklpdaabPwD
namespace Go.Proofs.Ytfmghmidklpdaab
open Go.RowKit
set_option linter.unusedVariables false
/-! ### Clean, and what is written over -/
theorem SpA.len {w w' : World} {l : Tx} {a : Option Addr} {n c : Nat} (h : SpA w l a n c w') : (splF l).1.length = n ∧ n ≤ c ∧ c < 9223372036854775808 := by
  obtain ⟨og, h1, _⟩ := h
  exact og_len h1
theorem splF_ok {l : Tx} (h : splE l = 0) : (splF l).1 = cps l := by unfold splF; rw [if_pos h]
theorem splF_bad {l : Tx} (h : splE l ≠ 0) : (splF l).1 = [] := by unfold splF; rw [if_neg h]
theorem spl_small (l : Tx) : ∀ p ∈ (splF l).1, p.length ≤ 255 := by
  intro p hp
  by_cases h : splE l = 0
  · rw [splF_ok h] at hp
    exact ((splE_zero l).1 h).2.2.2.2.2.1 p hp
  · rw [splF_bad h] at hp; cases hp
theorem spl_few (l : Tx) : (splF l).1.length ≤ 256 := by
  by_cases h : splE l = 0
  · rw [splF_ok h]; exact ((splE_zero l).1 h).2.2.2.2.2.2
  · rw [splF_bad h]; simp
theorem flat_rs (xs : List Tx) : flatR RS xs = xs.map (fun x => .string (mk x)) := by
  induction xs with
  | nil => rfl
  | cons x r ih => rw [flatR, ih]; rfl
theorem OwR.setS {g n c : Nat} {l : List Tx} {V : World} (h : OwR RS g (.slice (some ⟨g, 0, none⟩) n c) l V) (I : Nat) (hI : I < n) (x : Tx) : ∃ l', OwR RS g (.slice (some ⟨g, 0, none⟩) n c) l' (V.setCell ⟨g, I, none⟩ (.string (mk x))) := by
  have hn := (ow_len h).1
  obtain ⟨xs, h1, h2, h3, h4, h5⟩ := h
  refine ⟨l.set I x, xs.set I x, ?_, ?_, ?_, ?_, ?_⟩
  · rw [List.length_set, List.length_set]; exact h1
  · rw [List.length_set, List.take_set, h2]
  · rw [List.length_set, List.length_set]; exact h3
  · rw [List.length_set]; exact h4
  · unfold SwR at h5 ⊢
    simp only [World.setCell, Array.getElem?_modify, h5]
    rw [flat_rs, flat_rs, List.map_set]
    simp
end Go.Proofs.Ytfmghmidklpdaab
