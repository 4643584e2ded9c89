import Derived.Test.YtdeefemeiggolaaFtFq
namespace Go.Proofs.Ytdeefemeiggolaa
open Go.RowKit
set_option linter.unusedVariables false
/-! ### FrameBit: a block's number, byte by byte -/
theorem lows4 (N : Nat) (h : N < 4294967296) : ∃ x0 x1 x2 x3 : By, lows N 4 = [x0, x1, x2, x3] ∧ x0.toNat + 256 * x1.toNat + 65536 * x2.toNat + 16777216 * (x3.toNat % 128) = N % 2147483648 ∧ (128 ≤ x3.toNat ↔ 2147483648 ≤ N) := by
  refine ⟨_, _, _, _, rfl, ?_, ?_⟩
  · simp only [BitVec.toNat_ofNat]; omega
  · simp only [BitVec.toNat_ofNat]; omega
/-- The four bytes ahead of what follows the first blocks. -/
theorem num_at (A R : List By) (x0 x1 x2 x3 : By) (B : List By) (e : B = A ++ ([x0, x1, x2, x3] ++ R)) : B[A.length]? = some x0 ∧ B[A.length + 1]? = some x1 ∧ B[A.length + 2]? = some x2 ∧ B[A.length + 3]? = some x3 := by
  subst e
  refine ⟨?_, ?_, ?_, ?_⟩
  · rw [List.getElem?_append_right (Nat.le_refl _), Nat.sub_self]; rfl
  · rw [List.getElem?_append_right (by omega), Nat.add_sub_cancel_left]; rfl
  · rw [List.getElem?_append_right (by omega), Nat.add_sub_cancel_left]; rfl
  · rw [List.getElem?_append_right (by omega), Nat.add_sub_cancel_left]; rfl
/-- How the law's loop stands: the blocks gone by, those to come. -/
def BtI (s : Shp) (plain bl : List By) (w : Nat) (at' : Nat) (found : Bool) (done rest : List By) (p : Nat) : Prop := bl = done ++ rest ∧ EncP s plain done p ∧ EncB s plain p rest ∧ at' = 4 + hl s + 1 + done.length ∧ (found = true → Ref (frameB s plain bl) w)
theorem BtI.start (s : Shp) (plain bl : List By) (w : Nat) (hE : EncB s plain 0 bl) : BtI s plain bl w (4 + hl s + 1) false [] bl 0 := ⟨rfl, .nil, hE, by simp, fun h => by cases h⟩
/-- A round: the blocks' end, or one block more. -/
theorem BtI.round {s : Shp} {plain bl : List By} {w at' : Nat} {found : Bool} {done rest : List By} {p : Nat} (h : BtI s plain bl w at' found done rest p) (h1 : 4 ≤ s.block) (h2 : s.block ≤ 7) (hpl : plain.length ≤ 4194304) :
    (rest = []) ∨ ∃ bk rest', rest = blkOf s.bsum (tk plain p (siz s)) bk ++ rest' ∧ p < plain.length ∧ stnum (tk plain p (siz s)) bk < 4294967296 ∧ stnum (tk plain p (siz s)) bk ≠ 0 ∧ stnum (tk plain p (siz s)) bk % 2147483648 = (stood (tk plain p (siz s)) bk).length ∧ (2147483648 ≤ stnum (tk plain p (siz s)) bk ↔ plainer (tk plain p (siz s)) bk = true) ∧ (stood (tk plain p (siz s)) bk).length ≤ 4194304 ∧
      ∀ fd : Bool, (fd = true → found = true ∨ (s.bsum = true ∧ at' + 4 ≤ w ∧ w < at' + 4 + (stood (tk plain p (siz s)) bk).length + 4) ∨ (s.bsum = false ∧ s.alone = true ∧ s.csum = true ∧ plainer (tk plain p (siz s)) bk = true ∧ at' + 4 ≤ w ∧ w < at' + 4 + (stood (tk plain p (siz s)) bk).length)) → BtI s plain bl w (at' + 4 + (stood (tk plain p (siz s)) bk).length + bs s) fd (done ++ blkOf s.bsum (tk plain p (siz s)) bk) rest' (p + siz s) := by
  obtain ⟨e1, e2, e3, e4, e5⟩ := h
  have hZ : siz s ≤ 4194304 := Nat.le_trans (Nat.pow_le_pow_right (by decide) (show 8 + 2 * s.block ≤ 22 by omega)) (by decide)
  cases e3 with
  | fin _ hp => exact .inl rfl
  | step _ bk rest' hp hE hr =>
    right
    obtain ⟨f1, f2, f3⟩ := piece_facts s plain p hp
    obtain ⟨n1, n2, n3, n4, n5⟩ := stnum_mod (tk plain p (siz s)) bk (by omega)
    have hN0 : stnum (tk plain p (siz s)) bk ≠ 0 := by
      have h3 := List.length_pos_iff.2 (hE.some (by omega))
      unfold stnum
      split <;> omega
    have hlen : (blkOf s.bsum (tk plain p (siz s)) bk).length = 4 + (stood (tk plain p (siz s)) bk).length + bs s := by
      unfold blkOf bs
      split <;> simp [lows_length] <;> omega
    refine ⟨bk, rest', rfl, hp, n1, hN0, n2, ⟨fun hx => ?_, n3⟩, by omega, fun fd hfd => ⟨?_, .snoc done p bk e2 hp hE, hr, ?_, fun hx => ?_⟩⟩
    · cases hpr : plainer (tk plain p (siz s)) bk with
      | true => rfl
      | false => exact absurd hx (n4 hpr)
    · rw [e1, List.append_assoc]
    · rw [List.length_append, hlen, e4]; omega
    · rcases hfd hx with h9 | ⟨g1, g2, g3⟩ | ⟨g1, g2, g3, g4, g5, g6⟩
      · exact e5 h9
      · rw [e1]; exact ref_sum s h1 h2 g1 plain hpl done rest' bk p e2 hp hE w (by omega) (by omega)
      · rw [e1]; exact ref_plain s h1 h2 g1 g2 g3 plain hpl done rest' bk p e2 hp hr g4 w (by omega) (by omega)
end Go.Proofs.Ytdeefemeiggolaa
