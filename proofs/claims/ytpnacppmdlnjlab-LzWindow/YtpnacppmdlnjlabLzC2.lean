import Derived.Test.YtpnacppmdlnjlabLzC
namespace Go.Proofs.Ytpnacppmdlnjlab
open Go.RowKit
set_option linter.unusedVariables false
theorem matchS_ok {σ : Type} {T : Tk σ} {L low : Nat} {r r5 : List By} {s s2 : σ} (h : matchS T L low r s = .ok r5 s2) : ∃ x y r4 n k, r = x :: y :: r4 ∧ ¬ x.toNat + 256 * y.toNat = 0 ∧ T.reaches s (x.toNat + 256 * y.toNat) = true ∧ num low r4 = some (n, k) ∧ T.room s (n + 4) = true ∧ r5 = r4.drop k ∧ s2 = T.mat s (x.toNat + 256 * y.toNat) (n + 4) := by
  unfold matchS at h
  match r, h with
  | [], h => cases h
  | [_], h => cases h
  | x :: y :: r4, h =>
    simp only at h
    by_cases hc : x.toNat + 256 * y.toNat = 0 ∨ T.reaches s (x.toNat + 256 * y.toNat) = false
    · rw [if_pos hc] at h; cases h
    · rw [if_neg hc] at h
      cases hn : num low r4 with
      | none => rw [hn] at h; cases h
      | some p =>
        obtain ⟨n, k⟩ := p
        rw [hn] at h
        simp only at h
        by_cases hr : T.room s (n + 4) = false
        · rw [if_pos hr] at h; cases h
        · rw [if_neg hr] at h
          injection h with h1 h2
          refine ⟨x, y, r4, n, k, rfl, fun h => hc (.inl h), ?_, hn, by simpa using hr, h1.symm, h2.symm⟩
          cases hq : T.reaches s (x.toNat + 256 * y.toNat) with
          | true => rfl
          | false => exact absurd (.inr hq) hc
theorem scan_bound (ahead : List By) (m L : Nat) : ∀ (q : Nat) (r s s' : List By), r.length ≤ q → s.length ≤ m → scanS (pl ahead m) L r s = .good s' → s'.length ≤ m ∧ s'.length ≤ s.length + 255 * r.length := by
  intro q
  induction q with
  | zero =>
    intro r s s' hr hs h
    obtain rfl : r = [] := List.length_eq_zero_iff.1 (by omega)
    rw [scanS] at h; cases h
  | succ q ih =>
    intro r s s' hr hs h
    cases r with
    | nil => rw [scanS] at h; cases h
    | cons tok r1 =>
      rw [scanS_cons] at h
      have htk := tok.isLt
      cases hp : plainS (pl ahead m) L (tok.toNat / 16) r1 s with
      | bad a y => rw [hp] at h; cases h
      | ok r3 s1 =>
        rw [hp] at h
        obtain ⟨n, k, hn, hroom, hnl, rfl, rfl⟩ := plainS_ok hp
        have hnk := num_le hn (by omega)
        have hroom' : n + s.length ≤ m := by simpa [pl] using hroom
        have hs1 : ((pl ahead m).plain s ((r1.drop k).take n)).length = s.length + n := by
          show (s ++ (r1.drop k).take n).length = _
          simp; omega
        have hl3 : (r1.drop (k + n)).length = r1.length - (k + n) := by simp
        simp only [List.length_cons] at hr ⊢
        simp only at h
        by_cases h3 : r1.drop (k + n) = []
        · rw [if_pos h3] at h
          by_cases hlow : tok.toNat % 16 = 0
          · rw [if_pos hlow] at h
            injection h with h
            subst h
            show ((pl ahead m).plain s ((r1.drop k).take n)).length ≤ m ∧ ((pl ahead m).plain s ((r1.drop k).take n)).length ≤ _
            rw [hs1]; omega
          · rw [if_neg hlow] at h; cases h
        · rw [if_neg h3] at h
          cases hm : matchS (pl ahead m) L (tok.toNat % 16) (r1.drop (k + n)) ((pl ahead m).plain s ((r1.drop k).take n)) with
          | bad a y => rw [hm] at h; cases h
          | ok r5 s2 =>
            rw [hm] at h
            obtain ⟨x, y, r4, n2, k2, hr4, _, _, hn2, hroom2, rfl, rfl⟩ := matchS_ok hm
            have hnk2 := num_le hn2 (by omega)
            rw [hr4] at hl3
            simp only [List.length_cons] at hl3
            have hroom2' : n2 + 4 + ((pl ahead m).plain s ((r1.drop k).take n)).length ≤ m := by simpa [pl] using hroom2
            have := ih (r4.drop k2) _ s' (by simp; omega) (by rw [pl_mat_length]; omega) h
            rw [pl_mat_length, hs1, List.length_drop] at this
            omega
theorem dec_bound (b ahead : List By) (most : Int) : (dec b ahead most).1.length ≤ 4194304 ∧ (dec b ahead most).1.length ≤ 255 * b.length ∧ ((dec b ahead most).2.2 = 0 → ((dec b ahead most).1.length : Int) ≤ most) := by
  unfold dec
  by_cases hm : most < 0 ∨ 4194304 < most
  · rw [if_pos hm]; exact ⟨by simp, by simp, fun h => by cases h⟩
  · rw [if_neg hm]
    cases hs : scanS (pl ahead most.toNat) b.length b [] with
    | bad a y => exact ⟨by simp, by simp, fun _ => by simp; omega⟩
    | good s =>
      have := scan_bound ahead most.toNat b.length b.length b [] s (Nat.le_refl _) (by simp) hs
      refine ⟨by simp only; omega, ?_, fun _ => by simp only; omega⟩
      simpa using this.2
end Go.Proofs.Ytpnacppmdlnjlab
