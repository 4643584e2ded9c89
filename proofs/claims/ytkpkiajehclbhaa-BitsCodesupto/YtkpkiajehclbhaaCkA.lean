import Derived.Test.YtkpkiajehclbhaaCpA
namespace Go.Proofs.Ytkpkiajehclbhaa
open Go.RowKit
set_option linter.unusedVariables false
/-! ### BitsKraft -/
def prtI (z : Int) : Nat := if 0 < z ∧ z ≤ 15 then 2 ^ (15 - z.toNat) else 0
def partsI : List Int → Nat
  | [] => 0
  | z :: r => prtI z + partsI r
def wordsI : List Int → Nat
  | [] => 0
  | z :: r => (if 0 < z ∧ z ≤ 15 then 1 else 0) + wordsI r
theorem partsI_app (a b : List Int) : partsI (a ++ b) = partsI a + partsI b := by
  induction a with
  | nil => simp [partsI]
  | cons x r ih => simp only [List.cons_append, partsI, ih]; omega
theorem wordsI_app (a b : List Int) : wordsI (a ++ b) = wordsI a + wordsI b := by
  induction a with
  | nil => simp [wordsI]
  | cons x r ih => simp only [List.cons_append, wordsI, ih]; omega
theorem prtI_le (z : Int) : prtI z ≤ 16384 := by
  unfold prtI
  split
  · rename_i h
    exact Nat.le_trans (Nat.pow_le_pow_right (by decide) (by omega : 15 - z.toNat ≤ 14)) (by decide)
  · omega
theorem partsI_le (zs : List Int) : partsI zs ≤ 16384 * zs.length ∧ wordsI zs ≤ zs.length := by
  induction zs with
  | nil => simp [partsI, wordsI]
  | cons x r ih =>
    have := prtI_le x
    simp only [partsI, wordsI, List.length_cons]
    split <;> omega
theorem take_snocI (zs : List Int) (I : Nat) (x : Int) (hx : zs[I]? = some x) : zs.take (I + 1) = zs.take I ++ [x] := by
  rw [List.take_add_one, hx]; rfl
theorem partsI_step (zs : List Int) (I : Nat) (x : Int) (hx : zs[I]? = some x) : partsI (zs.take (I + 1)) = partsI (zs.take I) + prtI x ∧ wordsI (zs.take (I + 1)) = wordsI (zs.take I) + (if 0 < x ∧ x ≤ 15 then 1 else 0) := by
  rw [take_snocI zs I x hx, partsI_app, wordsI_app]
  simp [partsI, wordsI]
theorem partsI_toI (ls : List Nat) (h : ∀ x ∈ ls, x ≤ 15) : partsI (toI ls) = parts ls ∧ (0 < wordsI (toI ls) ↔ 0 < parts ls) := by
  induction ls with
  | nil => simp [toI, partsI, wordsI, parts]
  | cons x r ih =>
    obtain ⟨h1, h2⟩ := ih (fun y hy => h y (List.mem_cons_of_mem _ hy))
    have hx := h x (List.mem_cons_self ..)
    have e : toI (x :: r) = (x : Int) :: toI r := rfl
    rw [e]
    simp only [partsI, wordsI, parts, h1]
    by_cases h0 : x = 0
    · subst h0
      have e1 : prtI ((0 : Nat) : Int) = 0 := by decide
      have e2 : prt 0 = 0 := rfl
      rw [e1, e2, if_neg (by omega)]
      refine ⟨rfl, ?_⟩
      simpa using h2
    · have e1 : prtI (x : Int) = prt x := by
        unfold prtI prt
        rw [if_pos (by omega), if_neg h0, Int.toNat_natCast]
      have e2 : 0 < prt x := by
        unfold prt
        rw [if_neg h0]; exact Nat.two_pow_pos _
      rw [e1, if_pos (by omega)]
      refine ⟨rfl, ?_⟩
      constructor <;> intro _ <;> omega
theorem kraft_code (ls : List Nat) (hk : Cod ls) : partsI (toI ls) = room ls ∧ 0 < wordsI (toI ls) := by
  have h : ∀ x ∈ ls, x ≤ 15 := fun x hx => by
    obtain ⟨j, hj⟩ := List.mem_iff_getElem?.1 hx
    have := hk.each j
    rw [List.getD_eq_getElem?_getD, hj] at this
    exact this
  obtain ⟨h1, h2⟩ := partsI_toI ls h
  have h3 := parts_eq ls h
  refine ⟨by rw [h1, h3], h2.2 (by rw [h3]; exact hk.pos)⟩
theorem kraft (zs : List Int) : IsCode zs ↔ (1 ≤ zs.length ∧ zs.length ≤ 320) ∧ (∀ j x, j < zs.length → zs[j]? = some x → 0 ≤ x ∧ x ≤ 15) ∧ 0 < wordsI zs ∧ partsI zs ≤ 32768 := by
  constructor
  · rintro ⟨ls, rfl, hk⟩
    obtain ⟨h1, h2⟩ := kraft_code ls hk
    have hf := hk.fit
    refine ⟨⟨?_, by rw [toI_length]; exact hk.len⟩, ?_, h2, by omega⟩
    · cases ls with
      | nil => simp [toI, wordsI] at h2
      | cons x r => simp [toI]
    · intro j x hj hx
      rw [toI_length] at hj
      rw [toI_at ls j hj] at hx
      injection hx with hx
      have := hk.each j
      omega
  · rintro ⟨⟨h1, h2⟩, h3, h4, h5⟩
    obtain ⟨ls, rfl, hl1, hl2⟩ := toI_of zs (fun z hz => by
      obtain ⟨j, hj⟩ := List.mem_iff_getElem?.1 hz
      exact h3 j z (List.getElem?_eq_some_iff.1 hj).1 hj)
    obtain ⟨k1, k2⟩ := partsI_toI ls hl2
    have k3 := parts_eq ls hl2
    rw [toI_length] at h2
    exact ⟨ls, rfl, hl1, h2, by have := k2.1 h4; omega, by omega⟩
end Go.Proofs.Ytkpkiajehclbhaa
