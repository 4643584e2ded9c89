import Derived.Test.YtpnacppmdlnjlaaLzC2
namespace Go.Proofs.Ytpnacppmdlnjlaa
open Go.RowKit
set_option linter.unusedVariables false
theorem plainS_bad {σ : Type} {T : Tk σ} {L low : Nat} {r : List By} {s : σ} {a y : Nat} (h : plainS T L low r s = .bad a y) : a ≤ L ∧ y ≠ 0 := by
  unfold plainS at h
  cases hn : num low r with
  | none => rw [hn] at h; injection h with h1 h2; omega
  | some p =>
    obtain ⟨n, k⟩ := p
    rw [hn] at h
    simp only at h
    split at h
    · injection h with h1 h2; omega
    · split at h
      · injection h with h1 h2; omega
      · cases h
theorem matchS_bad {σ : Type} {T : Tk σ} {L low : Nat} {r : List By} {s : σ} {a y : Nat} (h : matchS T L low r s = .bad a y) : a ≤ L ∧ y ≠ 0 := by
  unfold matchS at h
  match r, h with
  | [], h => injection h with h1 h2; omega
  | [_], h => injection h with h1 h2; omega
  | u :: v :: r4, h =>
    simp only at h
    split at h
    · injection h with h1 h2; omega
    · split at h
      · injection h with h1 h2; omega
      · split at h
        · injection h with h1 h2; omega
        · cases h
theorem scanS_bad {σ : Type} (T : Tk σ) (L : Nat) : ∀ (q : Nat) (r : List By) (s : σ) (a y : Nat), r.length ≤ q → scanS T L r s = .bad a y → a ≤ L ∧ y ≠ 0 := by
  intro q
  induction q with
  | zero =>
    intro r s a y hr h
    obtain rfl : r = [] := List.length_eq_zero_iff.1 (by omega)
    rw [scanS] at h; injection h with h1 h2; omega
  | succ q ih =>
    intro r s a y hr h
    cases r with
    | nil => rw [scanS] at h; injection h with h1 h2; omega
    | cons tok r1 =>
      rw [scanS_cons] at h
      cases hp : plainS T L (tok.toNat / 16) r1 s with
      | bad a' y' =>
        rw [hp] at h; injection h with h1 h2
        subst h1 h2
        exact plainS_bad hp
      | ok r3 s1 =>
        rw [hp] at h
        simp only at h
        have hl3 := plainS_le hp
        by_cases h3 : r3 = []
        · rw [if_pos h3] at h
          split at h
          · cases h
          · injection h with h1 h2; omega
        · rw [if_neg h3] at h
          cases hm : matchS T L (tok.toNat % 16) r3 s1 with
          | bad a' y' =>
            rw [hm] at h; injection h with h1 h2
            subst h1 h2
            exact matchS_bad hm
          | ok r5 s2 =>
            rw [hm] at h
            have hl5 := matchS_le hm
            simp only [List.length_cons] at hr
            exact ih r5 s2 a y (by omega) h
/-- What Decode answers with an error, and without. -/
theorem dec_shape (b ahead : List By) (most : Int) : ((dec b ahead most).2.2 = 0 ∧ (dec b ahead most).2.1 = 0) ∨ ((dec b ahead most).2.2 ≠ 0 ∧ (dec b ahead most).1 = [] ∧ (dec b ahead most).2.1 ≤ b.length) := by
  unfold dec
  by_cases hm : most < 0 ∨ 4194304 < most
  · rw [if_pos hm]; exact .inr ⟨by simp, rfl, by simp⟩
  · rw [if_neg hm]
    cases hs : scanS (pl ahead most.toNat) b.length b [] with
    | bad a y =>
      have := scanS_bad _ _ _ _ _ _ _ (Nat.le_refl _) hs
      exact .inr ⟨this.2, rfl, this.1⟩
    | good s => exact .inl ⟨rfl, rfl⟩
theorem dec_none : dec [] [] 0 = ([], 0, 4) := by
  simp [dec, scanS]
end Go.Proofs.Ytpnacppmdlnjlaa
