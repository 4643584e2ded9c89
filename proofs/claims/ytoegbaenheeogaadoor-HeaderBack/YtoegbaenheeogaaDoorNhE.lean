import Derived.Test.YtoegbaenheeogaaDoorNfM
namespace Go.Proofs.YtoegbaenheeogaaDoor
open Go.RowKit
set_option linter.unusedVariables false
/-! ### Cut, pure -/
/-- A text has a slash at q. -/
def isSl (s : ByteArray) (q : Nat) : Prop := s.data.toList[q]? = some 47
instance (s : ByteArray) (q : Nat) : Decidable (isSl s q) := by unfold isSl; infer_instance
/-- The last slash ahead of m, or -1. -/
def lix (s : ByteArray) : Nat → Int
  | 0 => -1
  | m + 1 => if isSl s m then (m : Int) else lix s m
theorem lix_spec (s : ByteArray) (m : Nat) : (lix s m = -1 ∧ ∀ q, q < m → ¬ isSl s q) ∨ ∃ i : Nat, lix s m = i ∧ i < m ∧ isSl s i ∧ ∀ q, i < q → q < m → ¬ isSl s q := by
  induction m with
  | zero => exact .inl ⟨rfl, fun q hq => by omega⟩
  | succ m ih =>
    unfold lix
    by_cases h : isSl s m
    · rw [if_pos h]
      exact .inr ⟨m, rfl, by omega, h, fun q h1 h2 => by omega⟩
    · rw [if_neg h]
      rcases ih with ⟨e, H⟩ | ⟨i, e, h1, h2, H⟩
      · refine .inl ⟨e, fun q hq => ?_⟩
        by_cases hqm : q = m
        · subst hqm; exact h
        · exact H q (by omega)
      · refine .inr ⟨i, e, by omega, h2, fun q h3 h4 => ?_⟩
        by_cases hqm : q = m
        · subst hqm; exact h
        · exact H q h3 (by omega)
/-- Where a long name can be cut. -/
def cCond (s : ByteArray) (q : Nat) : Prop := 1 ≤ q ∧ q ≤ 155 ∧ isSl s q ∧ q + 2 ≤ s.size ∧ s.size ≤ q + 101
def cM (s : ByteArray) : Nat := min 156 (s.size - 1)
def cutA (s : ByteArray) : Int := if 1 ≤ lix s (cM s) ∧ (s.size : Int) - lix s (cM s) - 1 ≤ 100 then lix s (cM s) else -1
theorem isSl_lt {s : ByteArray} {q : Nat} (h : isSl s q) : q < s.size := by
  have := (List.getElem?_eq_some_iff.1 h).1
  exact this
theorem cut_cond (s : ByteArray) (p : Nat) (h : cutA s = p) : cCond s p := by
  unfold cutA at h
  split at h
  · next q =>
    rcases lix_spec s (cM s) with ⟨e, H⟩ | ⟨i, e, h1, h2, H⟩
    · rw [e] at q; omega
    · rw [e] at q h
      have hp : p = i := by omega
      subst hp
      have := isSl_lt h2
      unfold cM at h1
      exact ⟨by omega, by omega, h2, by omega, by omega⟩
  · omega
theorem cut_none (s : ByteArray) (h : cutA s = -1) (q : Nat) : ¬ cCond s q := by
  rintro ⟨h1, h2, h3, h4, h5⟩
  have hq : q < cM s := by unfold cM; omega
  unfold cutA at h
  rcases lix_spec s (cM s) with ⟨e, H⟩ | ⟨i, e, g1, g2, H⟩
  · exact H q hq h3
  · have hiq : q ≤ i := by
      apply Classical.byContradiction
      intro hn
      exact H q (by omega) hq h3
    rw [e, if_pos ⟨by omega, by omega⟩] at h
    omega
theorem cut_ge (s : ByteArray) : cutA s = -1 ∨ ∃ p : Nat, cutA s = p := by
  unfold cutA
  split
  · next q => exact .inr ⟨(lix s (cM s)).toNat, by omega⟩
  · exact .inl rfl
/-- The last place at which a name can be cut. -/
theorem cut_last (s : ByteArray) (p : Nat) (h : cCond s p) (H : ∀ q, p < q → ¬ cCond s q) : cutA s = p := by
  rcases cut_ge s with e | ⟨r, e⟩
  · exact absurd h (cut_none s e p)
  · have hr := cut_cond s r e
    have h1 : r ≤ p := Classical.byContradiction fun hn => H r (by omega) hr
    have h2 : p ≤ r := by
      -- p's slash is ahead of the one that was found
      have hp : p < cM s := by unfold cM; have := h.2.1; have := h.2.2.2.1; omega
      rcases lix_spec s (cM s) with ⟨e2, H2⟩ | ⟨i, e2, g1, g2, H2⟩
      · exact absurd h.2.2.1 (H2 p hp)
      · have hpi : p ≤ i := Classical.byContradiction fun hn => H2 p (by omega) hp h.2.2.1
        unfold cutA at e
        rw [e2] at e
        split at e
        · omega
        · omega
    have : r = p := by omega
    rw [e, this]
theorem cut_not (s : ByteArray) (H : ∀ q, ¬ cCond s q) : cutA s = -1 := by
  rcases cut_ge s with e | ⟨r, e⟩
  · exact e
  · exact absurd (cut_cond s r e) (H r)
def cutV (s : ByteArray) : Value := if s.size ≤ 100 then .tuple #[.string ⟨#[]⟩, .string s, .int .i64 0] else if cutA s = -1 then .tuple #[.string ⟨#[]⟩, .string ⟨#[]⟩, .int .i64 133] else .tuple #[.string (s.extract 0 (cutA s).toNat), .string (s.extract ((cutA s).toNat + 1) s.size), .int .i64 0]
theorem cutV_short (s : ByteArray) (h : s.size ≤ 100) : cutV s = .tuple #[.string ⟨#[]⟩, .string s, .int .i64 0] := by unfold cutV; rw [if_pos h]
theorem cutV_no (s : ByteArray) (h : ¬ s.size ≤ 100) (h2 : cutA s = -1) : cutV s = .tuple #[.string ⟨#[]⟩, .string ⟨#[]⟩, .int .i64 133] := by unfold cutV; rw [if_neg h, if_pos h2]
theorem cutV_at (s : ByteArray) (h : ¬ s.size ≤ 100) (p : Nat) (h2 : cutA s = p) : cutV s = .tuple #[.string (s.extract 0 p), .string (s.extract (p + 1) s.size), .int .i64 0] := by
  unfold cutV
  rw [if_neg h, h2, if_neg (by omega), Int.toNat_natCast]
end Go.Proofs.YtoegbaenheeogaaDoor
