import Derived.Test.YtpnacppmdlnjlaaLzD
namespace Go.Proofs.Ytpnacppmdlnjlaa
open Go.RowKit
set_option linter.unusedVariables false
/-- How the document's loop over a number stands. -/
def ReadI (b : List By) (at' : Nat) (r : Option (Nat × Nat)) (i n : Nat) : Prop :=
  at' ≤ i ∧ i ≤ b.length ∧ 15 ≤ n ∧ n ≤ 15 + 255 * (i - at') ∧ r = (match more (b.drop i) with | none => none | some (m, k) => some (m + n, k + (i - at')))
theorem ReadI.start (b : List By) (at' : Nat) (h : at' ≤ b.length) : ReadI b at' (match more (b.drop at') with | none => none | some (m, k) => some (m + 15, k)) at' 15 :=
  ⟨Nat.le_refl _, h, Nat.le_refl _, by omega, by cases more (b.drop at') with
    | none => rfl
    | some p => simp⟩
theorem ReadI.step {b : List By} {at' : Nat} {r : Option (Nat × Nat)} {i n : Nat} (h : ReadI b at' r i n) (hi : i < b.length) (h255 : b[i].toNat = 255) : ReadI b at' r (i + 1) (n + 255) := by
  obtain ⟨h1, h2, h3, h4, h5⟩ := h
  refine ⟨by omega, by omega, by omega, by omega, ?_⟩
  rw [h5, more_at hi, if_pos h255]
  cases more (b.drop (i + 1)) with
  | none => rfl
  | some p => simp; omega
theorem ReadI.last {b : List By} {at' : Nat} {r : Option (Nat × Nat)} {i n : Nat} (h : ReadI b at' r i n) (hi : i < b.length) (h255 : ¬ b[i].toNat = 255) : r = some (n + b[i].toNat, i + 1 - at') := by
  obtain ⟨h1, h2, h3, h4, h5⟩ := h
  rw [h5, more_at hi, if_neg h255]
  simp; omega
theorem ReadI.none {b : List By} {at' : Nat} {r : Option (Nat × Nat)} {i n : Nat} (h : ReadI b at' r i n) (hi : ¬ i < b.length) : r = none := by
  obtain ⟨h1, h2, h3, h4, h5⟩ := h
  rw [h5, show b.drop i = [] by simp; omega]; rfl
/-- What read answers. -/
def Readd (b : List By) (at' : Nat) (r : Option (Nat × Nat)) (w : World) (e : Ending) (w' : World) : Prop :=
  w' = w ∧ match r with
  | none => e = .returned (.tuple #[.int .i64 0, .int .i64 b.length, .bool false])
  | some (n, k) => e = .returned (.tuple #[.int .i64 n, .int .i64 (at' + k : Nat), .bool true])
/-- A slice to read in: its bytes lie there unless it has none. -/
def In (a : Option Addr) (c : Nat) (b : List By) (w : World) : Prop := b.length ≤ c ∧ c < 9223372036854775808 ∧ b.length ≤ 140737488351232 ∧ (b ≠ [] → ∃ g o, a = some ⟨g, o, none⟩ ∧ Rd g o b w)
theorem In.at {a : Option Addr} {c : Nat} {b : List By} {w : World} (h : In a c b w) (i : Nat) (hi : i < b.length) : ∃ g o, a = some ⟨g, o, none⟩ ∧ w.cell? ⟨g, o + i, none⟩ = some (.int .u8 b[i].toNat) := by
  obtain ⟨g, o, h1, h2⟩ := h.2.2.2 (by intro e; rw [e] at hi; simp at hi)
  exact ⟨g, o, h1, h2 i hi⟩
set_option maxHeartbeats 8000000 in
set_option maxRecDepth 100000 in
theorem rread_any (a : Option Addr) (c : Nat) (b : List By) (w : World) (h : In a c b w) (at' : Nat) (hat : at' ≤ b.length) :
    Calls Try.prog 44 #[.slice a b.length c, .int .i64 at'] w (Readd b at' (match more (b.drop at') with | none => none | some (m, k) => some (m + 15, k)) w) := by
  obtain ⟨r, hr⟩ : ∃ r, r = (match more (b.drop at') with | none => none | some (m, k) => some (m + 15, k)) := ⟨_, rfl⟩
  have HI0 : Hid (ReadI b at' r at' 15) := by rw [hr]; exact ReadI.start b at' hat
  rw [← hr]
  clear hr
  obtain ⟨P, hP⟩ : ∃ P, P = Readd b at' r w := ⟨_, rfl⟩
  rw [← hP]
  have HP : Hid (P = Readd b at' r w) := hP
  have HN : Hid (In a c b w) := h
  have hb1 := h.1
  have hb2 := h.2.1
  have hb3 := h.2.2.1
  clear hP h
  go_enter Try.func44, Try.ntmps44
  go_wp2
  go_loopg [1, 7] b.length (fun kx i n wr => ∃ (I N : Nat), b.length - I ≤ kx ∧ i = .int .i64 I ∧ n = .int .i64 N ∧ wr = w ∧ Hid (ReadI b at' r I N))
  case atStart => exact ⟨at', 15, by omega, rfl, rfl, rfl, HI0⟩
  case round =>
    obtain ⟨I, N, hkx, rfl, rfl, rfl, HI⟩ := hrel
    clear HI0
    obtain ⟨k1, k2, k3, k4, _⟩ := HI.out
    by_cases hlt : I < b.length
    · obtain ⟨g, o, rfl, hcell⟩ := HN.out.at I hlt
      have hx := b[I].isLt
      by_cases h255 : b[I].toNat = 255
      · have HS := HI.out.step hlt h255
        have HS' : Hid (ReadI b at' r (I + 1) (N + 255)) := HS
        rw [h255] at hcell
        clear HS HI HN HP h255
        go_wp2_with fail
        go_roundg (b.length - (I + 1))
        case measure => omega
        case rel => exact ⟨I + 1, N + 255, by omega, by first | rfl | (congr 1), by first | rfl | (congr 1), rfl, HS'⟩
      · have hl := HI.out.last hlt h255
        have HF : Hid (P (.returned (.tuple #[.int .i64 (N + b[I].toNat : Nat), .int .i64 (I + 1 : Nat), .bool true])) wr) := by
          show P _ _
          rw [HP.out, hl]
          refine ⟨rfl, ?_⟩
          show _ = _
          rw [show at' + (I + 1 - at') = I + 1 by omega]
        have h255' : ((b[I].toNat : Nat) : Int) < 255 := by omega
        clear hl HI HN HP h255
        generalize b[I].toNat = x at *
        go_wp2_with fail
        exact HF.out
    · have hl := HI.out.none hlt
      have HF : Hid (P (.returned (.tuple #[.int .i64 0, .int .i64 b.length, .bool false])) wr) := by
        show P _ _
        rw [HP.out, hl]
        exact ⟨rfl, rfl⟩
      clear hl HI HN HP
      go_wp2_with fail
      exact HF.out
end Go.Proofs.Ytpnacppmdlnjlaa
