import Derived.Test.YtffhpoilifgcdaaDoorVag
import Derived.Test.YtffhpoilifgcdaaDoorVah
import Derived.Test.YtffhpoilifgcdaaDoorVac
namespace Go.Proofs.YtffhpoilifgcdaaDoor
open Go.RowKit
set_option linter.unusedVariables false
/-! ### Maps in records, as functions: what is read -/
def fNv (b : List By) : Int := if 128 ≤ (b.headD 0).toNat then binN b else (octN b : Nat)
def fEv (b : List By) : Nat := if 128 ≤ (b.headD 0).toNat then binE b else octE b
theorem numA_nv (b : List By) : numA b = .tuple #[.int .i64 (fNv b), .int .i64 (fEv b : Nat)] := by
  unfold numA fNv fEv
  split
  · rfl
  · rfl
theorem fEv_zero (b : List By) (h : fEv b ≠ 0) : fNv b = 0 := by
  unfold fEv at h
  unfold fNv
  split
  · rename_i h1
    rw [if_pos h1] at h
    unfold binE at h
    unfold binN
    split
    · rename_i h2
      rw [if_pos h2] at h
      split
      · rename_i h3
        rw [if_pos h3] at h
        exact absurd rfl h
      · rfl
    · rfl
  · rename_i h1
    rw [if_neg h1] at h
    unfold octE at h
    unfold octN
    split
    · rename_i h2
      rw [if_pos h2] at h
      split
      · rename_i h3
        rw [if_pos h3] at h
        exact absurd rfl h
      · rfl
    · rfl
theorem fNv_le (b : List By) : fNv b ≤ 9223372036854775807 := by
  unfold fNv
  split
  · unfold binN
    split
    · split
      · rename_i h
        unfold inI at h
        simp at h
        omega
      · decide
    · decide
  · unfold octN
    split
    · split
      · rename_i h
        unfold mx at h
        omega
      · decide
    · decide
/-- A number that is not below 0. -/
def szN (b : List By) : Nat × Nat := if fEv b = 0 ∧ fNv b < 0 then (0, 3) else ((fNv b).toNat, fEv b)
theorem szN_bad (b : List By) (h : (szN b).2 ≠ 0) : (szN b).1 = 0 := by
  unfold szN at h ⊢
  split
  · rfl
  · rename_i h1
    rw [if_neg h1] at h
    simp only at h ⊢
    rw [fEv_zero b h]
    rfl
theorem szN_le (b : List By) : (szN b).1 ≤ 9223372036854775807 := by
  have := fNv_le b
  unfold szN
  split
  · decide
  · simp only; omega
/-- A slot of 24 bytes. -/
def one2 (s : List By) : (Nat × Nat) × Nat :=
  if (szN (s.take 12)).2 ≠ 0 then ((0, 0), (szN (s.take 12)).2) else
  if (szN (s.drop 12)).2 ≠ 0 then ((0, 0), (szN (s.drop 12)).2) else
  if 9223372036854775807 - (szN (s.take 12)).1 < (szN (s.drop 12)).1 then ((0, 0), 3) else (((szN (s.take 12)).1, (szN (s.take 12)).1 + (szN (s.drop 12)).1), 0)
def z24 : List By := List.replicate 24 0#8
/-- The ranges of a table. -/
def rdO (R : List By) : Nat → Nat → List (Nat × Nat) → List (Nat × Nat) × Nat
  | 0, _, acc => (acc, 0)
  | n + 1, at_, acc => if (R.drop at_).take 24 = z24 then (acc, 0) else if (one2 ((R.drop at_).take 24)).2 ≠ 0 then ([], (one2 ((R.drop at_).take 24)).2) else rdO R n (at_ + 24) (acc ++ [(one2 ((R.drop at_).take 24)).1])
end Go.Proofs.YtffhpoilifgcdaaDoor
