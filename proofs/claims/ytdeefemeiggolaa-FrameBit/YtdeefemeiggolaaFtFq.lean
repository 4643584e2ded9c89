import Derived.Test.YtdeefemeiggolaaFtEq
namespace Go.Proofs.Ytdeefemeiggolaa
open Go.RowKit
set_option linter.unusedVariables false
/-! ### FrameBit: what the law's loop over the blocks may say -/
/-- Whatever the byte at w is changed to, the frame is refused. -/
def Ref (F : List By) (w : Nat) : Prop := ∀ y z, F[w]? = some y → y ≠ z → (fdec (F.set w z) 4194304).2.2 ≠ 0
theorem frameB_right (s : Shp) (plain bl : List By) : frameB s plain bl = lows 407708164 4 ++ (fhead s plain.length ++ (bl ++ (lows 0 4 ++ (if s.csum = true then lows (sm plain) 4 else [])))) := by
  unfold frameB; simp only [List.append_assoc]
/-- In a block that has a sum. -/
theorem ref_sum (s : Shp) (h1 : 4 ≤ s.block) (h2 : s.block ≤ 7) (hs : s.bsum = true) (plain : List By) (hpl : plain.length ≤ 4194304) (done rest bk : List By) (p : Nat) (hP : EncP s plain done p) (hp : p < plain.length) (hE : EncOf (tk plain p (siz s)) (if s.alone = true then [] else plain.take p) bk) (w : Nat)
    (hw1 : 4 + hl s + 1 + done.length + 4 ≤ w) (hw2 : w < 4 + hl s + 1 + done.length + 4 + (stood (tk plain p (siz s)) bk).length + 4) : Ref (frameB s plain (done ++ (blkOf s.bsum (tk plain p (siz s)) bk ++ rest))) w := by
  intro y z hy hz
  obtain ⟨f1, f2, f3⟩ := piece_facts s plain p hp
  have hZ : siz s ≤ 4194304 := Nat.le_trans (Nat.pow_le_pow_right (by decide) (show 8 + 2 * s.block ≤ 22 by omega)) (by decide)
  obtain ⟨n1, n2, n3, n4, n5⟩ := stnum_mod (tk plain p (siz s)) bk (by omega)
  have hN0 : stnum (tk plain p (siz s)) bk ≠ 0 := by
    have h3 := List.length_pos_iff.2 (hE.some (by omega))
    unfold stnum
    split <;> omega
  have e : frameB s plain (done ++ (blkOf s.bsum (tk plain p (siz s)) bk ++ rest)) = lows 407708164 4 ++ (fhead s plain.length ++ (done ++ (lows (stnum (tk plain p (siz s)) bk) 4 ++ (stood (tk plain p (siz s)) bk ++ (lows (sm (stood (tk plain p (siz s)) bk)) 4 ++ (rest ++ (lows 0 4 ++ (if s.csum = true then lows (sm plain) 4 else [])))))))) := by
    rw [frameB_right]
    unfold blkOf
    rw [if_pos hs]
    simp only [List.append_assoc]
  rw [e] at hy ⊢
  exact bit_block s h1 h2 hs plain hpl done p hP _ _ _ n1 hN0 n2.symm (by omega) w y z hz hw1 hw2 hy
/-- In a plain block, read alone, under a content's sum. -/
theorem ref_plain (s : Shp) (h1 : 4 ≤ s.block) (h2 : s.block ≤ 7) (hs : s.bsum = false) (hal : s.alone = true) (hc : s.csum = true) (plain : List By) (hpl : plain.length ≤ 4194304) (done rest bk : List By) (p : Nat) (hP : EncP s plain done p) (hp : p < plain.length) (hR : EncB s plain (p + siz s) rest) (hpr : plainer (tk plain p (siz s)) bk = true) (w : Nat)
    (hw1 : 4 + hl s + 1 + done.length + 4 ≤ w) (hw2 : w < 4 + hl s + 1 + done.length + 4 + (stood (tk plain p (siz s)) bk).length) : Ref (frameB s plain (done ++ (blkOf s.bsum (tk plain p (siz s)) bk ++ rest))) w := by
  intro y z hy hz
  have e1 : stood (tk plain p (siz s)) bk = tk plain p (siz s) := by unfold stood; rw [if_pos hpr]
  have e2 : stnum (tk plain p (siz s)) bk = (tk plain p (siz s)).length + 2147483648 := by unfold stnum; rw [if_pos hpr]
  have e : frameB s plain (done ++ (blkOf s.bsum (tk plain p (siz s)) bk ++ rest)) = lows 407708164 4 ++ (fhead s plain.length ++ (done ++ (lows ((tk plain p (siz s)).length + 2147483648) 4 ++ (tk plain p (siz s) ++ (rest ++ (lows 0 4 ++ lows (sm plain) 4)))))) := by
    rw [frameB_right]
    unfold blkOf
    rw [if_neg (by rw [hs]; decide), if_pos hc, e1, e2]
    simp only [List.append_assoc, List.nil_append]
  rw [e1] at hw2
  rw [e] at hy ⊢
  exact bit_plain s h1 h2 hs hal hc plain hpl done rest p hP hp hR w y z hz hw1 hw2 hy
/-- In the content's sum. -/
theorem ref_csum (s : Shp) (h1 : 4 ≤ s.block) (h2 : s.block ≤ 7) (hc : s.csum = true) (plain bl : List By) (hpl : plain.length ≤ 4194304) (hE : EncB s plain 0 bl) (w : Nat) (hw1 : (frameB s plain bl).length - 4 ≤ w) (hw2 : w < (frameB s plain bl).length) : Ref (frameB s plain bl) w := by
  intro y z hy hz
  have hfh : (fhead s plain.length).length = hl s + 1 := by unfold fhead; rw [List.length_append, fhd_len]; rfl
  have e : frameB s plain bl = lows 407708164 4 ++ (fhead s plain.length ++ (bl ++ (lows 0 4 ++ (lows (sm plain) 4 ++ [])))) := by
    rw [frameB_right, if_pos hc, List.append_nil]
  have hl : (frameB s plain bl).length = 4 + hl s + 1 + bl.length + 8 := by
    rw [e]; simp only [List.length_append, lows_length, hfh, List.length_nil]; omega
  rw [e] at hy ⊢
  exact bit_csum s h1 h2 hc plain bl hpl hE w y z hz (by omega) (by omega) hy
end Go.Proofs.Ytdeefemeiggolaa
