import Derived.Test.YtdeefemeiggolaaFtBq
namespace Go.Proofs.Ytdeefemeiggolaa
open Go.RowKit
set_option linter.unusedVariables false
theorem set_mid (A S P : List By) (w : Nat) (z : By) (h1 : A.length ≤ w) (h2 : w < A.length + S.length) : (A ++ (S ++ P)).set w z = A ++ (S.set (w - A.length) z ++ P) := by
  rw [List.set_append_right _ _ h1, List.set_append_left _ _ (by omega)]
theorem get_mid (A S P : List By) (w : Nat) (h1 : A.length ≤ w) (h2 : w < A.length + S.length) (y : By) (hy : (A ++ (S ++ P))[w]? = some y) (hj : w - A.length < S.length) : S[w - A.length] = y := by
  rw [List.getElem?_append_right h1, List.getElem?_append_left hj, List.getElem?_eq_getElem hj] at hy
  exact Option.some.inj hy
theorem next_bad {B : List By} {a y : Nat} (h0 : 0 < B.length) (h : nextF B 4194304 0 [] = .bad a y) : (fdec B 4194304).2.2 ≠ 0 := by
  have hrd : readF B 4194304 0 [] [] = .bad a y := by rw [readF_eq, if_pos h0, h]
  have hy := readF_bad hrd
  have : fdec B (4194304 : Int) = ([], a, y) := by
    unfold fdec
    rw [if_neg (by decide)]
    show (match readF B 4194304 0 [] [] with | .bad a y => ([], a, y) | .ok (out, _) => (out, B.length, 0)) = _
    rw [hrd]
  rw [this]
  exact hy
/-- A block's bytes or its sum changed. -/
theorem bit_block (s : Shp) (h1 : 4 ≤ s.block) (h2 : s.block ≤ 7) (hs : s.bsum = true) (plain : List By) (hpl : plain.length ≤ 4194304) (done : List By) (p : Nat) (hP : EncP s plain done p) (N : Nat) (S post : List By) (hN : N < 4294967296) (hN0 : N ≠ 0) (hSl : S.length = N % 2147483648) (hSz : S.length ≤ siz s) (w : Nat) (y z : By) (hz : y ≠ z)
    (hw1 : 4 + hl s + 1 + done.length + 4 ≤ w) (hw2 : w < 4 + hl s + 1 + done.length + 4 + S.length + 4) (hy : (lows 407708164 4 ++ (fhead s plain.length ++ (done ++ (lows N 4 ++ (S ++ (lows (sm S) 4 ++ post))))))[w]? = some y) :
    (fdec ((lows 407708164 4 ++ (fhead s plain.length ++ (done ++ (lows N 4 ++ (S ++ (lows (sm S) 4 ++ post)))))).set w z) 4194304).2.2 ≠ 0 := by
  have hZ : siz s ≤ 4194304 := Nat.le_trans (Nat.pow_le_pow_right (by decide) (show 8 + 2 * s.block ≤ 22 by omega)) (by decide)
  have hfh : (fhead s plain.length).length = hl s + 1 := by unfold fhead; rw [List.length_append, fhd_len]; rfl
  obtain ⟨S', T', hset, hSl', hTl', hne⟩ : ∃ S' T', (lows 407708164 4 ++ (fhead s plain.length ++ (done ++ (lows N 4 ++ (S ++ (lows (sm S) 4 ++ post)))))).set w z = lows 407708164 4 ++ (fhead s plain.length ++ (done ++ (lows N 4 ++ (S' ++ (T' ++ post))))) ∧ S'.length = S.length ∧ T'.length = 4 ∧ le T' ≠ sm S' := by
    by_cases hin : w < 4 + hl s + 1 + done.length + 4 + S.length
    · have e : lows 407708164 4 ++ (fhead s plain.length ++ (done ++ (lows N 4 ++ (S ++ (lows (sm S) 4 ++ post))))) = (lows 407708164 4 ++ (fhead s plain.length ++ (done ++ lows N 4))) ++ (S ++ (lows (sm S) 4 ++ post)) := by simp only [List.append_assoc]
      have el : (lows 407708164 4 ++ (fhead s plain.length ++ (done ++ lows N 4))).length = 4 + hl s + 1 + done.length + 4 := by simp only [List.length_append, lows_length, hfh]; omega
      rw [e] at hy
      have hj : w - (lows 407708164 4 ++ (fhead s plain.length ++ (done ++ lows N 4))).length < S.length := by omega
      have hg := get_mid _ S _ w (by omega) (by omega) y hy hj
      refine ⟨S.set (w - (lows 407708164 4 ++ (fhead s plain.length ++ (done ++ lows N 4))).length) z, lows (sm S) 4, ?_, by rw [List.length_set], lows_length _ _, ?_⟩
      · rw [e, set_mid _ _ _ _ _ (by omega) (by omega)]; simp only [List.append_assoc]
      · rw [le_lows _ 4 (by have := sm_lt S; omega)]
        exact (sm_set S _ hj z (by rw [hg]; exact hz)).symm
    · have e : lows 407708164 4 ++ (fhead s plain.length ++ (done ++ (lows N 4 ++ (S ++ (lows (sm S) 4 ++ post))))) = (lows 407708164 4 ++ (fhead s plain.length ++ (done ++ (lows N 4 ++ S)))) ++ (lows (sm S) 4 ++ post) := by simp only [List.append_assoc]
      have el : (lows 407708164 4 ++ (fhead s plain.length ++ (done ++ (lows N 4 ++ S)))).length = 4 + hl s + 1 + done.length + 4 + S.length := by simp only [List.length_append, lows_length, hfh]; omega
      have hl4 : (lows (sm S) 4).length = 4 := lows_length _ _
      rw [e] at hy
      have hj : w - (lows 407708164 4 ++ (fhead s plain.length ++ (done ++ (lows N 4 ++ S)))).length < (lows (sm S) 4).length := by omega
      have hg := get_mid _ _ _ w (by omega) (by omega) y hy hj
      refine ⟨S, (lows (sm S) 4).set (w - (lows 407708164 4 ++ (fhead s plain.length ++ (done ++ (lows N 4 ++ S)))).length) z, ?_, rfl, by rw [List.length_set]; exact hl4, ?_⟩
      · rw [e, set_mid _ _ _ _ _ (by omega) (by omega)]; simp only [List.append_assoc]
      · have := le_set (lows (sm S) 4) _ hj z (by rw [hg]; exact hz)
        rw [le_lows (sm S) 4 (by have := sm_lt S; omega)] at this
        exact this
  rw [hset]
  obtain ⟨k', q', hpr⟩ := pre_read s plain hZ 4194304 (Nat.le_refl _) [] (by simpa using hpl) hP (lows 407708164 4 ++ fhead s plain.length) (lows N 4 ++ (S' ++ (T' ++ post))) 0 0
  have hbb := blk_bad s hs 4194304 0 (lows 407708164 4 ++ (fhead s plain.length ++ done)) post ([] ++ plain.take p) N S' T' hN hN0 (by omega) (by omega) hTl' hne
  have el2 : (lows 407708164 4 ++ (fhead s plain.length ++ done)).length = (lows 407708164 4 ++ fhead s plain.length).length + done.length := by simp only [List.length_append]; omega
  have ea : (lows 407708164 4 ++ fhead s plain.length) ++ (done ++ (lows N 4 ++ (S' ++ (T' ++ post)))) = lows 407708164 4 ++ (fhead s plain.length ++ (done ++ (lows N 4 ++ (S' ++ (T' ++ post))))) := by simp only [List.append_assoc]
  have eb : lows 407708164 4 ++ (fhead s plain.length ++ done) ++ (lows N 4 ++ (S' ++ (T' ++ post))) = lows 407708164 4 ++ (fhead s plain.length ++ (done ++ (lows N 4 ++ (S' ++ (T' ++ post))))) := by simp only [List.append_assoc]
  rw [ea] at hpr
  rw [eb, el2] at hbb
  refine frame_bad s h1 h2 plain (done ++ (lows N 4 ++ (S' ++ (T' ++ post)))) hpl ((lows 407708164 4 ++ fhead s plain.length).length + done.length + 4 + S'.length) 44 ?_
  have e0 : (lows 407708164 4 ++ fhead s plain.length).length = 4 + hl s + 1 := by simp only [List.length_append, lows_length, hfh]; omega
  rw [List.nil_append, ← e0]
  rw [List.length_nil] at hpr
  rw [hpr, blocksF_eq, hbb]
end Go.Proofs.Ytdeefemeiggolaa
