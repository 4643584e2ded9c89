import Derived.Test.YtdeefemeiggolaaFtCq
namespace Go.Proofs.Ytdeefemeiggolaa
open Go.RowKit
set_option linter.unusedVariables false
/-- The content's sum does not fit. -/
theorem frame_sum (s : Shp) (h1 : 4 ≤ s.block) (h2 : s.block ≤ 7) (hc : s.csum = true) (n : Nat) (hn : n ≤ 4194304) (X outc C : List By) (p2 k q : Nat) (hb : blocksF (lows 407708164 4 ++ (fhead s n ++ X)) 4194304 s 0 (4 + hl s + 1) [] 0 0 = .ok (p2, outc, k, q)) (ho : outc.length = n) (hlen : p2 + 8 ≤ (lows 407708164 4 ++ (fhead s n ++ X)).length) (ht : tk (lows 407708164 4 ++ (fhead s n ++ X)) (p2 + 4) 4 = C) (hne : le C ≠ sm outc) : (fdec (lows 407708164 4 ++ (fhead s n ++ X)) 4194304).2.2 ≠ 0 := by
  have hhd := head_read s h1 h2 n (by omega) [] X 4 rfl
  have t1 : tk ([] ++ (lows 407708164 4 ++ (fhead s n ++ X))) 0 4 = lows 407708164 4 := tk_mid [] _ _ 4 (lows_length _ _)
  have hle : le (lows 407708164 4) = 407708164 := le_lows _ 4 (by decide)
  rw [List.nil_append] at hhd t1
  generalize lows 407708164 4 ++ (fhead s n ++ X) = B at *
  refine next_bad (by omega) (a := p2 + 4) (y := 46) ?_
  unfold nextF
  rw [if_neg (by omega), t1, hle, if_pos rfl]
  unfold frameF
  simp only [Nat.zero_add, hhd, List.length_nil, hb, Nat.sub_zero, List.drop_zero]
  rw [if_neg (by
    intro hx
    rw [if_pos hx.1] at hx
    exact hx.2 ho.symm), if_pos hc, if_neg (by omega), ht, if_pos hne]
/-- The content's sum changed. -/
theorem bit_csum (s : Shp) (h1 : 4 ≤ s.block) (h2 : s.block ≤ 7) (hc : s.csum = true) (plain bl : List By) (hpl : plain.length ≤ 4194304) (hE : EncB s plain 0 bl) (w : Nat) (y z : By) (hz : y ≠ z) (hw1 : 4 + hl s + 1 + bl.length + 4 ≤ w) (hw2 : w < 4 + hl s + 1 + bl.length + 8) (hy : (lows 407708164 4 ++ (fhead s plain.length ++ (bl ++ (lows 0 4 ++ (lows (sm plain) 4 ++ [])))))[w]? = some y) :
    (fdec ((lows 407708164 4 ++ (fhead s plain.length ++ (bl ++ (lows 0 4 ++ (lows (sm plain) 4 ++ []))))).set w z) 4194304).2.2 ≠ 0 := by
  have hZ : siz s ≤ 4194304 := Nat.le_trans (Nat.pow_le_pow_right (by decide) (show 8 + 2 * s.block ≤ 22 by omega)) (by decide)
  have hfh : (fhead s plain.length).length = hl s + 1 := by unfold fhead; rw [List.length_append, fhd_len]; rfl
  have e : lows 407708164 4 ++ (fhead s plain.length ++ (bl ++ (lows 0 4 ++ (lows (sm plain) 4 ++ [])))) = (lows 407708164 4 ++ (fhead s plain.length ++ (bl ++ lows 0 4))) ++ (lows (sm plain) 4 ++ []) := by simp only [List.append_assoc]
  have el : (lows 407708164 4 ++ (fhead s plain.length ++ (bl ++ lows 0 4))).length = 4 + hl s + 1 + bl.length + 4 := by simp only [List.length_append, lows_length, hfh]; omega
  have hl4 : (lows (sm plain) 4).length = 4 := lows_length _ _
  rw [e] at hy
  have hj : w - (lows 407708164 4 ++ (fhead s plain.length ++ (bl ++ lows 0 4))).length < (lows (sm plain) 4).length := by omega
  have hg := get_mid _ _ _ w (by omega) (by omega) y hy hj
  obtain ⟨C, hC⟩ : ∃ C, (lows (sm plain) 4).set (w - (lows 407708164 4 ++ (fhead s plain.length ++ (bl ++ lows 0 4))).length) z = C := ⟨_, rfl⟩
  have hset : (lows 407708164 4 ++ (fhead s plain.length ++ (bl ++ (lows 0 4 ++ (lows (sm plain) 4 ++ []))))).set w z = lows 407708164 4 ++ (fhead s plain.length ++ (bl ++ (lows 0 4 ++ (C ++ [])))) := by
    rw [e, set_mid _ _ _ _ _ (by omega) (by omega), hC]; simp only [List.append_assoc]
  have hCl : C.length = 4 := by rw [← hC, List.length_set]; exact hl4
  have hne : le C ≠ sm plain := by
    have := le_set (lows (sm plain) 4) _ hj z (by rw [hg]; exact hz)
    rw [le_lows (sm plain) 4 (by have := sm_lt plain; omega), hC] at this
    exact this
  rw [hset]
  obtain ⟨k', q', hbr⟩ := blocks_read s plain hZ 4194304 (Nat.le_refl _) [] (C ++ []) (by simpa using hpl) hE (lows 407708164 4 ++ fhead s plain.length) 0 0
  have ea : lows 407708164 4 ++ fhead s plain.length ++ (bl ++ (lows 0 4 ++ (C ++ []))) = lows 407708164 4 ++ (fhead s plain.length ++ (bl ++ (lows 0 4 ++ (C ++ [])))) := by simp only [List.append_assoc]
  have e0 : (lows 407708164 4 ++ fhead s plain.length).length = 4 + hl s + 1 := by simp only [List.length_append, lows_length, hfh]; omega
  rw [ea, e0] at hbr
  have h00 : ([] : List By) ++ plain.take 0 = [] := by rw [List.take_zero]; rfl
  have h01 : ([] : List By) ++ plain = plain := List.nil_append _
  rw [h00, h01, List.length_nil] at hbr
  refine frame_sum s h1 h2 hc plain.length hpl _ plain C _ _ _ hbr rfl ?_ ?_ hne
  · simp only [List.length_append, lows_length, hfh, hCl, List.length_nil]; omega
  · have h9 := tk_mid (lows 407708164 4 ++ (fhead s plain.length ++ (bl ++ lows 0 4))) C [] 4 hCl
    have e9 : lows 407708164 4 ++ (fhead s plain.length ++ (bl ++ lows 0 4)) ++ (C ++ []) = lows 407708164 4 ++ (fhead s plain.length ++ (bl ++ (lows 0 4 ++ (C ++ [])))) := by simp only [List.append_assoc]
    rw [el, e9] at h9
    exact h9
/-- Alone: what was read before does not matter. -/
theorem blocks_alone (s : Shp) (hal : s.alone = true) (plain : List By) (hZ : siz s ≤ 4194304) (most : Nat) (hm : most ≤ 4194304) (began : Nat) (post : List By) {p : Nat} {bl : List By} (h : EncB s plain p bl) : ∀ (A out1 : List By) (k q : Nat), out1.length + (plain.length - p) ≤ most → ∃ k' q', blocksF (A ++ (bl ++ (lows 0 4 ++ post))) most s began A.length out1 k q = .ok (A.length + bl.length, out1 ++ plain.drop p, k', q') := by
  induction h with
  | fin p hp =>
    intro A out1 k q ho
    refine ⟨k, q, ?_⟩
    rw [blocksF_eq]
    have hb : blockF (A ++ ([] ++ (lows 0 4 ++ post))) most s began A.length out1 = .fin := by
      have t1 : tk (A ++ (lows 0 4 ++ post)) A.length 4 = lows 0 4 := tk_mid A _ _ 4 (lows_length _ _)
      rw [List.nil_append]
      unfold blockF
      rw [t1, if_neg (by rw [List.length_append, List.length_append, lows_length]; omega), if_pos (le_lows 0 4 (by decide))]
    rw [hb, List.drop_of_length_le hp, List.append_nil]
    rfl
  | step p bk rest hp hE hr ih =>
    intro A out1 k q ho
    obtain ⟨f1, f2, f3⟩ := piece_facts s plain p hp
    have hah : ahd s began out1 = if s.alone = true then [] else plain.take p := by
      unfold ahd; rw [if_pos hal, if_pos hal]
    have hbr := blk_read s most began A (tk plain p (siz s)) bk (rest ++ (lows 0 4 ++ post)) out1 hZ (by rw [hah]; exact hE) f2 f1 hm (by omega)
    have hnx : tk plain p (siz s) ++ plain.drop (p + siz s) = plain.drop p := by
      unfold tk
      conv => rhs; rw [← List.take_append_drop (siz s) (plain.drop p), List.drop_drop]
    have hpl : (tk plain p (siz s)).length = min (siz s) (plain.length - p) := by unfold tk; rw [List.length_take, List.length_drop]
    obtain ⟨k', q', hi⟩ := ih (A ++ blkOf s.bsum (tk plain p (siz s)) bk) (out1 ++ tk plain p (siz s)) (k + 1) (if plainer (tk plain p (siz s)) bk = true then q + 1 else q) (by rw [List.length_append]; omega)
    refine ⟨k', q', ?_⟩
    rw [blocksF_eq]
    have ea : A ++ (blkOf s.bsum (tk plain p (siz s)) bk ++ rest ++ (lows 0 4 ++ post)) = A ++ (blkOf s.bsum (tk plain p (siz s)) bk ++ (rest ++ (lows 0 4 ++ post))) := by simp only [List.append_assoc]
    rw [ea, hbr]
    simp only
    rw [List.append_assoc, List.length_append, List.append_assoc, hnx] at hi
    rw [hi]
    congr 2
    rw [List.length_append]; omega
/-- A block that stands plain, whatever its bytes. -/
theorem blk_plain (s : Shp) (hs : s.bsum = false) (most began : Nat) (A S post out : List By) (hSz : S.length ≤ siz s) (hS31 : S.length < 2147483648) (ho : out.length + S.length ≤ most) :
    blockF (A ++ (lows (S.length + 2147483648) 4 ++ (S ++ post))) most s began A.length out = .ok (A.length + 4 + S.length) (out ++ S) true := by
  have t1 : tk (A ++ (lows (S.length + 2147483648) 4 ++ (S ++ post))) A.length 4 = lows (S.length + 2147483648) 4 := tk_mid A _ _ 4 (lows_length _ _)
  have hle : le (lows (S.length + 2147483648) 4) = S.length + 2147483648 := le_lows _ 4 (by omega)
  have t2 : tk (A ++ (lows (S.length + 2147483648) 4 ++ (S ++ post))) (A.length + 4) S.length = S := tk_mid2 A _ _ _ _ _ (by rw [lows_length]) rfl
  have hbs : bs s = 0 := by unfold bs; rw [if_neg (by rw [hs]; decide)]
  have hmod : (S.length + 2147483648) % 2147483648 = S.length := by omega
  have hbl : (A ++ (lows (S.length + 2147483648) 4 ++ (S ++ post))).length = A.length + 4 + S.length + post.length := by
    simp only [List.length_append, lows_length]; omega
  unfold blockF
  rw [t1, hle, hmod, t2, hbs, if_neg (by omega), if_neg (by omega), if_neg (by omega), if_neg (by omega), if_neg (fun hx => by rw [hs] at hx; exact absurd hx.1 (by decide)), if_pos (by omega), if_neg (by omega)]
  rfl
end Go.Proofs.Ytdeefemeiggolaa
