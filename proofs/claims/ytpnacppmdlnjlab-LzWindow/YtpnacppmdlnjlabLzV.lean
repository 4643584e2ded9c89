import Derived.Test.YtpnacppmdlnjlabLzU
namespace Go.Proofs.Ytpnacppmdlnjlab
open Go.RowKit
set_option linter.unusedVariables false
/-! ### Two takers that differ in nothing that is asked -/
structure Alk {σ : Type} (T U : Tk σ) : Prop where
  room : ∀ s n, T.room s n = U.room s n
  plain : ∀ s p, T.plain s p = U.plain s p
  reaches : ∀ s n, n < 65536 → T.reaches s n = U.reaches s n
  mat : ∀ s b n, 1 ≤ b → b < 65536 → T.reaches s b = true → T.mat s b n = U.mat s b n
  fin : ∀ s, T.fin s = U.fin s
theorem Alk.plain_eq {σ : Type} {T U : Tk σ} (h : Alk T U) (L low : Nat) (r : List By) (s : σ) : plainS T L low r s = plainS U L low r s := by
  simp only [plainS, h.room, h.plain]
theorem Alk.match_eq {σ : Type} {T U : Tk σ} (h : Alk T U) (L low : Nat) (r : List By) (s : σ) : matchS T L low r s = matchS U L low r s := by
  match r with
  | [] => rfl
  | [x] => rfl
  | x :: y :: r4 =>
    have hx := x.isLt
    have hy := y.isLt
    have hr := h.reaches s (x.toNat + 256 * y.toNat) (by omega)
    simp only [matchS, ← hr]
    by_cases hc : x.toNat + 256 * y.toNat = 0 ∨ T.reaches s (x.toNat + 256 * y.toNat) = false
    · rw [if_pos hc, if_pos hc]
    · rw [if_neg hc, if_neg hc]
      have hre : T.reaches s (x.toNat + 256 * y.toNat) = true := by
        cases hq : T.reaches s (x.toNat + 256 * y.toNat) with
        | true => rfl
        | false => exact absurd (.inr hq) hc
      cases num low r4 with
      | none => rfl
      | some p =>
        obtain ⟨n, k⟩ := p
        simp only [h.room]
        rw [h.mat s _ _ (by omega) (by omega) hre]
theorem Alk.scan_eq {σ : Type} {T U : Tk σ} (h : Alk T U) (L : Nat) : ∀ (m : Nat) (r : List By) (s : σ), r.length ≤ m → scanS T L r s = scanS U L r s := by
  intro m
  induction m with
  | zero =>
    intro r s hr
    obtain rfl : r = [] := List.length_eq_zero_iff.1 (by omega)
    rw [scanS, scanS]
  | succ m ih =>
    intro r s hr
    cases r with
    | nil => rw [scanS, scanS]
    | cons tok r1 =>
      rw [scanS_cons, scanS_cons, h.plain_eq]
      cases hp : plainS U L (tok.toNat / 16) r1 s with
      | bad a y => rfl
      | ok r3 s1 =>
        simp only [h.fin, h.match_eq]
        by_cases h3 : r3 = []
        · rw [if_pos h3, if_pos h3]
        · rw [if_neg h3, if_neg h3]
          cases hm : matchS U L (tok.toNat % 16) r3 s1 with
          | bad a y => rfl
          | ok r5 s2 =>
            have h1 := plainS_le hp
            have h2 := matchS_le hm
            simp only [List.length_cons] at hr
            exact ih r5 s2 (by omega)
theorem win_alk (ahead : List By) (most : Nat) : Alk (pl ahead most) (pl (win ahead) most) := by
  have hwl := win_length ahead
  refine ⟨fun _ _ => rfl, fun _ _ => rfl, fun s n hn => ?_, fun s b n h1 h2 hr => ?_, fun _ => rfl⟩
  · show decide _ = decide _
    rw [decide_eq_decide]; omega
  · have hr' : b ≤ ahead.length + s.length := by simpa [pl] using hr
    have e : ahead = ahead.take (ahead.length - 65535) ++ win ahead := (List.take_append_drop _ _).symm
    have e1 := pl_mat ahead most s b n h1 hr'
    have e2 := pl_mat (win ahead) most s b n h1 (by omega)
    have e3 : cop (ahead ++ s) b n = ahead.take (ahead.length - 65535) ++ cop (win ahead ++ s) b n := by
      rw [← cop_far _ _ _ _ h1 (by simp; omega), ← List.append_assoc, ← e]
    rw [e3, ← e2, ← List.append_assoc, ← e] at e1
    exact List.append_cancel_left e1
/-- Decode's answer hangs on the window alone. -/
theorem dec_win (b ahead : List By) (most : Int) : dec b ahead most = dec b (win ahead) most := by
  unfold dec
  by_cases h : most < 0 ∨ 4194304 < most
  · rw [if_pos h, if_pos h]
  · rw [if_neg h, if_neg h, (win_alk ahead most.toNat).scan_eq b.length b.length b [] (Nat.le_refl _)]
end Go.Proofs.Ytpnacppmdlnjlab
