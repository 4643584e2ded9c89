import Derived.Test.YtpnacppmdlnjlaaPaT
import Derived.Test.YtpnacppmdlnjlaaPaS
import Derived.Test.YtpnacppmdlnjlaaPaG
import Derived.Test.YtpnacppmdlnjlaaLzZ
namespace Go.Proofs.Ytpnacppmdlnjlaa
open Go.RowKit
set_option linter.unusedVariables false
theorem ls_bound (L : Nat) : ∀ (q : Nat) (r : List By) (s s' : Ls), r.length ≤ q → scanS ls L r s = .good s' → s'.l.length ≤ s.l.length + r.length ∧ ∀ x ∈ s'.l, x ∈ s.l ∨ x.p.length ≤ r.length := by
  intro q
  induction q with
  | zero =>
    intro r s s' hr h
    obtain rfl : r = [] := List.length_eq_zero_iff.1 (by omega)
    rw [scanS] at h; cases h
  | succ q ih =>
    intro r s s' hr h
    cases r with
    | nil => rw [scanS] at h; cases h
    | cons tok r1 =>
      rw [scanS_cons] at h
      cases hp : plainS ls L (tok.toNat / 16) r1 s with
      | bad a y => rw [hp] at h; cases h
      | ok r3 s1 =>
        rw [hp] at h
        obtain ⟨n, k, hn, hroom, hnl, rfl, rfl⟩ := plainS_ok hp
        have hpl : ((r1.drop k).take n).length ≤ r1.length := by simp; omega
        simp only [List.length_cons] at hr ⊢
        simp only at h
        by_cases h3 : r1.drop (k + n) = []
        · rw [if_pos h3] at h
          by_cases hlow : tok.toNat % 16 = 0
          · rw [if_pos hlow] at h
            injection h with h
            subst h
            show (s.l ++ [_]).length ≤ _ ∧ ∀ x ∈ s.l ++ [_], _
            refine ⟨by simp, fun x hx => ?_⟩
            rw [List.mem_append, List.mem_singleton] at hx
            rcases hx with hx | rfl
            · exact .inl hx
            · exact .inr (by show ((r1.drop k).take n).length ≤ _; omega)
          · rw [if_neg hlow] at h; cases h
        · rw [if_neg h3] at h
          cases hm : matchS ls L (tok.toNat % 16) (r1.drop (k + n)) (ls.plain s ((r1.drop k).take n)) with
          | bad a y => rw [hm] at h; cases h
          | ok r5 s2 =>
            rw [hm] at h
            have hl5 := matchS_le hm
            have hl3 : (r1.drop (k + n)).length ≤ r1.length := by simp
            obtain ⟨x, y, r4, n2, k2, hr4, _, _, hn2, hroom2, rfl, rfl⟩ := matchS_ok hm
            obtain ⟨g1, g2⟩ := ih (r4.drop k2) _ s' (by omega) h
            have e1 : (ls.mat (ls.plain s ((r1.drop k).take n)) (x.toNat + 256 * y.toNat) (n2 + 4)).l = s.l ++ [⟨(r1.drop k).take n, x.toNat + 256 * y.toNat, n2 + 4⟩] := rfl
            rw [e1] at g1 g2
            rw [List.length_append, List.length_singleton] at g1
            refine ⟨by omega, fun z hz => ?_⟩
            rcases g2 z hz with hz | hz
            · rw [List.mem_append, List.mem_singleton] at hz
              rcases hz with hz | rfl
              · exact .inl hz
              · exact .inr (by show ((r1.drop k).take n).length ≤ _; omega)
            · exact .inr (by omega)
theorem parse_bound (b : List By) : (parse b).1.length ≤ b.length ∧ ∀ x ∈ (parse b).1, x.p.length ≤ b.length := by
  unfold parse
  cases h : scanS ls b.length b ⟨[], ⟨[], 0, 0⟩, 0⟩ with
  | bad a y => exact ⟨by simp, fun x hx => by simp at hx⟩
  | good s =>
    obtain ⟨h1, h2⟩ := ls_bound b.length b.length b _ s (Nat.le_refl _) h
    refine ⟨by simpa using h1, fun x hx => ?_⟩
    rcases h2 x hx with h | h
    · simp at h
    · exact h
theorem parse_zero : parse [0#8] = ([⟨[], 0, 0⟩], 0, 0) := by
  have : scanS ls 1 [0#8] ⟨[], ⟨[], 0, 0⟩, 0⟩ = .good ⟨[⟨[], 0, 0⟩], ⟨[], 0, 0⟩, 0⟩ := by
    rw [scanS_cons]
    simp [plainS, num, ls]
  show (match scanS ls 1 [0#8] ⟨[], ⟨[], 0, 0⟩, 0⟩ with | .bad a y => ([], a, y) | .good s => (s.l, 0, 0)) = _
  rw [this]
/-- A row's element written over with nothing. -/
theorem Sw.zero {g : Nat} {xs : List Q} {w : World} (h : Sw g xs w) (i : Nat) (hi : i < xs.length) : Sw g (xs.set i q0) (((w.setCell ⟨g, i * 3, none⟩ (.slice none 0 0)).setCell ⟨g, i * 3 + 1, none⟩ (.int .i64 0)).setCell ⟨g, i * 3 + 2, none⟩ (.int .i64 0)) := by
  unfold Sw at h ⊢
  have e : flat (xs.set i q0) = (((flat xs).set (i * 3) (.slice none 0 0)).set (i * 3 + 1) (.int .i64 0)).set (i * 3 + 2) (.int .i64 0) := by
    have hx : xs = xs.take i ++ xs[i] :: xs.drop (i + 1) := by rw [← List.drop_eq_getElem_cons hi, List.take_append_drop]
    have hl : (xs.take i).length = i := by simp; omega
    have hf : (flat (xs.take i)).length = i * 3 := by rw [flat_length, hl]; omega
    have e1 : xs.set i q0 = xs.take i ++ q0 :: xs.drop (i + 1) := by
      conv => lhs; rw [hx]
      rw [List.set_append_right _ _ (by omega), hl, Nat.sub_self]; rfl
    rw [e1, flat_append]
    conv => rhs; rw [hx, flat_append]
    rw [List.set_append_right _ _ (by omega), List.set_append_right _ _ (by omega), List.set_append_right _ _ (by omega), hf]
    rw [show i * 3 - i * 3 = 0 by omega, show i * 3 + 1 - i * 3 = 1 by omega, show i * 3 + 2 - i * 3 = 2 by omega]
    rfl
  rw [e]
  simp only [World.setCell, Array.getElem?_modify, h]
  simp
theorem Sw.there {g : Nat} {xs : List Q} {w : World} (h : Sw g xs w) (i : Nat) (hi : i < xs.length) : ∃ u0 u1 u2, w.cell? ⟨g, i * 3, none⟩ = some u0 ∧ w.cell? ⟨g, i * 3 + 1, none⟩ = some u1 ∧ w.cell? ⟨g, i * 3 + 2, none⟩ = some u2 ∧ w.frozen? ⟨g, i * 3, none⟩ = false ∧ w.frozen? ⟨g, i * 3 + 1, none⟩ = false ∧ w.frozen? ⟨g, i * 3 + 2, none⟩ = false := by
  have hq := List.getElem?_eq_getElem hi
  have h0 := h.cell i 0 _ _ hq rfl
  have h1 := h.cell i 1 _ _ hq rfl
  have h2 := h.cell i 2 _ _ hq rfl
  rw [Nat.mul_comm 3 i] at h0 h1 h2
  exact ⟨_, _, _, h0.1, h1.1, h2.1, h0.2, h1.2, h2.2⟩
end Go.Proofs.Ytpnacppmdlnjlaa
