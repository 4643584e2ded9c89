import Derived.Test.YtoplhkpbicgceaaLzD
namespace Go.Proofs.Ytoplhkpbicgceaa
open Go.RowKit
set_option linter.unusedVariables false
/-- How the document's loop over a number stands. -/
def ReadI (b : List By) (at' : Nat) (r : Option (Nat × Nat)) (i n : Nat) : Prop :=
  at' ≤ i ∧ i ≤ b.length ∧ 15 ≤ n ∧ n ≤ 15 + 255 * (i - at') ∧ r = (match more (b.drop i) with | none => none | some (m, k) => some (m + n, k + (i - at')))
theorem ReadI.start (b : List By) (at' : Nat) (h : at' ≤ b.length) : ReadI b at' (match more (b.drop at') with | none => none | some (m, k) => some (m + 15, k)) at' 15 :=
  ⟨Nat.le_refl _, h, Nat.le_refl _, by omega, by cases more (b.drop at') with
    | none => rfl
    | some p => simp⟩
theorem ReadI.step {b : List By} {at' : Nat} {r : Option (Nat × Nat)} {i n : Nat} (h : ReadI b at' r i n) (hi : i < b.length) (h255 : b[i].toNat = 255) : ReadI b at' r (i + 1) (n + 255) := by
  obtain ⟨h1, h2, h3, h4, h5⟩ := h
  refine ⟨by omega, by omega, by omega, by omega, ?_⟩
  rw [h5, more_at hi, if_pos h255]
  cases more (b.drop (i + 1)) with
  | none => rfl
  | some p => simp; omega
theorem ReadI.last {b : List By} {at' : Nat} {r : Option (Nat × Nat)} {i n : Nat} (h : ReadI b at' r i n) (hi : i < b.length) (h255 : ¬ b[i].toNat = 255) : r = some (n + b[i].toNat, i + 1 - at') := by
  obtain ⟨h1, h2, h3, h4, h5⟩ := h
  rw [h5, more_at hi, if_neg h255]
  simp; omega
theorem ReadI.none {b : List By} {at' : Nat} {r : Option (Nat × Nat)} {i n : Nat} (h : ReadI b at' r i n) (hi : ¬ i < b.length) : r = none := by
  obtain ⟨h1, h2, h3, h4, h5⟩ := h
  rw [h5, show b.drop i = [] by simp; omega]; rfl
/-- What read answers. -/
def Readd (b : List By) (at' : Nat) (r : Option (Nat × Nat)) (w : World) (e : Ending) (w' : World) : Prop :=
  w' = w ∧ match r with
  | none => e = .returned (.tuple #[.int .i64 0, .int .i64 b.length, .bool false])
  | some (n, k) => e = .returned (.tuple #[.int .i64 n, .int .i64 (at' + k : Nat), .bool true])
/-- A slice to read in: its bytes lie there unless it has none. -/
def In (a : Option Addr) (c : Nat) (b : List By) (w : World) : Prop := b.length ≤ c ∧ c < 9223372036854775808 ∧ b.length ≤ 200000000000000 ∧ (b ≠ [] → ∃ g o, a = some ⟨g, o, none⟩ ∧ Rd g o b w)
theorem In.at {a : Option Addr} {c : Nat} {b : List By} {w : World} (h : In a c b w) (i : Nat) (hi : i < b.length) : ∃ g o, a = some ⟨g, o, none⟩ ∧ w.cell? ⟨g, o + i, none⟩ = some (.int .u8 b[i].toNat) := by
  obtain ⟨g, o, h1, h2⟩ := h.2.2.2 (by intro e; rw [e] at hi; simp at hi)
  exact ⟨g, o, h1, h2 i hi⟩
end Go.Proofs.Ytoplhkpbicgceaa
