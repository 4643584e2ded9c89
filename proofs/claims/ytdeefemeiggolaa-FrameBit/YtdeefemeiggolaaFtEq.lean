import Derived.Test.YtdeefemeiggolaaFtDq
namespace Go.Proofs.Ytdeefemeiggolaa
open Go.RowKit
set_option linter.unusedVariables false
/-- A plain block's byte changed, where blocks are read alone and the content has a sum. -/
theorem bit_plain (s : Shp) (h1 : 4 ≤ s.block) (h2 : s.block ≤ 7) (hs : s.bsum = false) (hal : s.alone = true) (hc : s.csum = true) (plain : List By) (hpl : plain.length ≤ 4194304) (done rest : List By) (p : Nat) (hP : EncP s plain done p) (hp : p < plain.length) (hR : EncB s plain (p + siz s) rest) (w : Nat) (y z : By) (hz : y ≠ z)
    (hw1 : 4 + hl s + 1 + done.length + 4 ≤ w) (hw2 : w < 4 + hl s + 1 + done.length + 4 + (tk plain p (siz s)).length) (hy : (lows 407708164 4 ++ (fhead s plain.length ++ (done ++ (lows ((tk plain p (siz s)).length + 2147483648) 4 ++ (tk plain p (siz s) ++ (rest ++ (lows 0 4 ++ lows (sm plain) 4)))))))[w]? = some y) :
    (fdec ((lows 407708164 4 ++ (fhead s plain.length ++ (done ++ (lows ((tk plain p (siz s)).length + 2147483648) 4 ++ (tk plain p (siz s) ++ (rest ++ (lows 0 4 ++ lows (sm plain) 4))))))).set w z) 4194304).2.2 ≠ 0 := by
  have hZ : siz s ≤ 4194304 := Nat.le_trans (Nat.pow_le_pow_right (by decide) (show 8 + 2 * s.block ≤ 22 by omega)) (by decide)
  have hfh : (fhead s plain.length).length = hl s + 1 := by unfold fhead; rw [List.length_append, fhd_len]; rfl
  obtain ⟨f1, f2, f3⟩ := piece_facts s plain p hp
  obtain ⟨S, hS⟩ : ∃ S, tk plain p (siz s) = S := ⟨_, rfl⟩
  rw [hS] at f1 f2 f3 hw2 hy ⊢
  have e : lows 407708164 4 ++ (fhead s plain.length ++ (done ++ (lows (S.length + 2147483648) 4 ++ (S ++ (rest ++ (lows 0 4 ++ lows (sm plain) 4)))))) = (lows 407708164 4 ++ (fhead s plain.length ++ (done ++ lows (S.length + 2147483648) 4))) ++ (S ++ (rest ++ (lows 0 4 ++ lows (sm plain) 4))) := by simp only [List.append_assoc]
  have el : (lows 407708164 4 ++ (fhead s plain.length ++ (done ++ lows (S.length + 2147483648) 4))).length = 4 + hl s + 1 + done.length + 4 := by simp only [List.length_append, lows_length, hfh]; omega
  rw [e] at hy
  have hj : w - (lows 407708164 4 ++ (fhead s plain.length ++ (done ++ lows (S.length + 2147483648) 4))).length < S.length := by omega
  have hg := get_mid _ S _ w (by omega) (by omega) y hy hj
  obtain ⟨j, hje⟩ : ∃ j, w - (lows 407708164 4 ++ (fhead s plain.length ++ (done ++ lows (S.length + 2147483648) 4))).length = j := ⟨_, rfl⟩
  simp only [hje] at hj hg
  obtain ⟨S', hS'⟩ : ∃ S', S.set j z = S' := ⟨_, rfl⟩
  have hSl : S'.length = S.length := by rw [← hS', List.length_set]
  have hset : (lows 407708164 4 ++ (fhead s plain.length ++ (done ++ (lows (S.length + 2147483648) 4 ++ (S ++ (rest ++ (lows 0 4 ++ lows (sm plain) 4))))))).set w z = lows 407708164 4 ++ (fhead s plain.length ++ (done ++ (lows (S'.length + 2147483648) 4 ++ (S' ++ (rest ++ (lows 0 4 ++ lows (sm plain) 4)))))) := by
    rw [e, set_mid _ _ _ _ _ (by omega) (by omega), hje, hS', hSl]; simp only [List.append_assoc]
  rw [hset]
  have e0 : (lows 407708164 4 ++ fhead s plain.length).length = 4 + hl s + 1 := by simp only [List.length_append, lows_length, hfh]; omega
  obtain ⟨k', q', hpr⟩ := pre_read s plain hZ 4194304 (Nat.le_refl _) [] (by simpa using hpl) hP (lows 407708164 4 ++ fhead s plain.length) (lows (S'.length + 2147483648) 4 ++ (S' ++ (rest ++ (lows 0 4 ++ lows (sm plain) 4)))) 0 0
  have ea : (lows 407708164 4 ++ fhead s plain.length) ++ (done ++ (lows (S'.length + 2147483648) 4 ++ (S' ++ (rest ++ (lows 0 4 ++ lows (sm plain) 4))))) = lows 407708164 4 ++ (fhead s plain.length ++ (done ++ (lows (S'.length + 2147483648) 4 ++ (S' ++ (rest ++ (lows 0 4 ++ lows (sm plain) 4)))))) := by simp only [List.append_assoc]
  rw [ea, e0] at hpr
  have hbp := blk_plain s hs 4194304 0 (lows 407708164 4 ++ (fhead s plain.length ++ done)) S' (rest ++ (lows 0 4 ++ lows (sm plain) 4)) ([] ++ plain.take p) (by omega) (by omega) (by rw [List.length_append, List.length_nil, List.length_take]; omega)
  have eb : lows 407708164 4 ++ (fhead s plain.length ++ done) ++ (lows (S'.length + 2147483648) 4 ++ (S' ++ (rest ++ (lows 0 4 ++ lows (sm plain) 4)))) = lows 407708164 4 ++ (fhead s plain.length ++ (done ++ (lows (S'.length + 2147483648) 4 ++ (S' ++ (rest ++ (lows 0 4 ++ lows (sm plain) 4)))))) := by simp only [List.append_assoc]
  have el2 : (lows 407708164 4 ++ (fhead s plain.length ++ done)).length = 4 + hl s + 1 + done.length := by simp only [List.length_append, lows_length, hfh]; omega
  rw [eb, el2] at hbp
  obtain ⟨k2, q2, hba⟩ := blocks_alone s hal plain hZ 4194304 (Nat.le_refl _) 0 (lows (sm plain) 4) hR (lows 407708164 4 ++ (fhead s plain.length ++ (done ++ (lows (S'.length + 2147483648) 4 ++ S')))) ([] ++ plain.take p ++ S') (k' + 1) (q' + 1) (by
    have hpm : S.length = min (siz s) (plain.length - p) := by rw [← hS]; unfold tk; rw [List.length_take, List.length_drop]
    rw [List.length_append, List.length_append, List.length_nil, List.length_take]; omega)
  have ec : lows 407708164 4 ++ (fhead s plain.length ++ (done ++ (lows (S'.length + 2147483648) 4 ++ S'))) ++ (rest ++ (lows 0 4 ++ lows (sm plain) 4)) = lows 407708164 4 ++ (fhead s plain.length ++ (done ++ (lows (S'.length + 2147483648) 4 ++ (S' ++ (rest ++ (lows 0 4 ++ lows (sm plain) 4)))))) := by simp only [List.append_assoc]
  have el3 : (lows 407708164 4 ++ (fhead s plain.length ++ (done ++ (lows (S'.length + 2147483648) 4 ++ S')))).length = 4 + hl s + 1 + done.length + 4 + S'.length := by simp only [List.length_append, lows_length, hfh]; omega
  rw [ec, el3] at hba
  have hall : blocksF (lows 407708164 4 ++ (fhead s plain.length ++ (done ++ (lows (S'.length + 2147483648) 4 ++ (S' ++ (rest ++ (lows 0 4 ++ lows (sm plain) 4))))))) 4194304 s 0 (4 + hl s + 1) [] 0 0 = .ok (4 + hl s + 1 + done.length + 4 + S'.length + rest.length, [] ++ plain.take p ++ S' ++ plain.drop (p + siz s), k2, q2) := by
    rw [List.length_nil] at hpr
    rw [hpr, blocksF_eq, hbp]
    simp only
    exact hba
  have hout : [] ++ plain.take p ++ S' ++ plain.drop (p + siz s) = plain.set (p + j) z := by
    have hp1 : plain = plain.take p ++ (S ++ plain.drop (p + siz s)) := by
      have : S ++ plain.drop (p + siz s) = plain.drop p := by
        rw [← hS]; unfold tk
        conv => rhs; rw [← List.take_append_drop (siz s) (plain.drop p), List.drop_drop]
      rw [this, List.take_append_drop]
    have hpt : (plain.take p).length = p := by rw [List.length_take]; omega
    conv => rhs; rw [hp1]
    rw [set_mid _ _ _ _ _ (by rw [hpt]; omega) (by rw [hpt]; omega), hpt, Nat.add_sub_cancel_left, hS', List.nil_append, List.append_assoc]
  rw [hout] at hall
  have hjp : p + j < plain.length := by omega
  have hgp : plain[p + j] ≠ z := by
    have h5 : S[j]? = plain[p + j]? := by
      rw [← hS]
      exact tk_get plain p (siz s) j (by omega)
    rw [List.getElem?_eq_getElem hj, List.getElem?_eq_getElem hjp] at h5
    rw [← Option.some.inj h5, hg]; exact hz
  refine frame_sum s h1 h2 hc plain.length hpl _ _ (lows (sm plain) 4) _ _ _ hall (by rw [List.length_set]) ?_ ?_ ?_
  · simp only [List.length_append, lows_length, hfh]; omega
  · have h9 := tk_mid (lows 407708164 4 ++ (fhead s plain.length ++ (done ++ (lows (S'.length + 2147483648) 4 ++ (S' ++ (rest ++ lows 0 4)))))) (lows (sm plain) 4) [] 4 (lows_length _ _)
    have e9 : lows 407708164 4 ++ (fhead s plain.length ++ (done ++ (lows (S'.length + 2147483648) 4 ++ (S' ++ (rest ++ lows 0 4))))) ++ (lows (sm plain) 4 ++ []) = lows 407708164 4 ++ (fhead s plain.length ++ (done ++ (lows (S'.length + 2147483648) 4 ++ (S' ++ (rest ++ (lows 0 4 ++ lows (sm plain) 4)))))) := by simp only [List.append_assoc, List.append_nil]
    have el9 : (lows 407708164 4 ++ (fhead s plain.length ++ (done ++ (lows (S'.length + 2147483648) 4 ++ (S' ++ (rest ++ lows 0 4)))))).length = 4 + hl s + 1 + done.length + 4 + S'.length + rest.length + 4 := by simp only [List.length_append, lows_length, hfh]; omega
    rw [el9, e9] at h9
    exact h9
  · rw [le_lows _ 4 (by have := sm_lt plain; omega)]
    exact (sm_set plain (p + j) hjp z hgp).symm
end Go.Proofs.Ytdeefemeiggolaa
