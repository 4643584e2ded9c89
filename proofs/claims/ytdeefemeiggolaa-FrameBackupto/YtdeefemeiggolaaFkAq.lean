import Derived.Test.YtdeefemeiggolaaQw
import Derived.Test.YtdeefemeiggolaaQa
import Derived.Test.YtdeefemeiggolaaFwAq
namespace Go.Proofs.Ytdeefemeiggolaa
open Go.RowKit
set_option linter.unusedVariables false
/-! ### A frame that Encode made is read back -/
theorem tk_mid (A x post : List By) (n : Nat) (h : x.length = n) : tk (A ++ (x ++ post)) A.length n = x := by
  unfold tk
  rw [List.drop_left, ← h, List.take_left]
theorem tk_mid2 (A y x post : List By) (p n : Nat) (hp : A.length + y.length = p) (h : x.length = n) : tk (A ++ (y ++ (x ++ post))) p n = x := by
  have := tk_mid (A ++ y) x post n h
  rw [List.length_append, hp, List.append_assoc] at this
  exact this
theorem stnum_mod (piece bk : List By) (hp : piece.length < 2147483648) : stnum piece bk < 4294967296 ∧ stnum piece bk % 2147483648 = (stood piece bk).length ∧ (plainer piece bk = true → 2147483648 ≤ stnum piece bk) ∧ (plainer piece bk = false → ¬ 2147483648 ≤ stnum piece bk) ∧ (stood piece bk).length ≤ piece.length := by
  unfold stnum stood
  by_cases h : plainer piece bk = true
  · rw [if_pos h, if_pos h]
    refine ⟨by omega, by omega, fun _ => by omega, fun hx => absurd (h.symm.trans hx) (by decide), Nat.le_refl _⟩
  · rw [if_neg h, if_neg h]
    have h2 : bk.length < piece.length := by
      unfold plainer at h
      rw [decide_eq_true_eq] at h
      omega
    refine ⟨by omega, by omega, fun hx => absurd hx h, fun _ => by omega, by omega⟩
theorem blk_read (s : Shp) (most began : Nat) (A piece bk post out : List By) (hZ : siz s ≤ 4194304) (hE : EncOf piece (ahd s began out) bk) (hps : piece.length ≤ siz s) (hp0 : piece ≠ []) (hm : most ≤ 4194304) (ho : out.length + piece.length ≤ most) :
    blockF (A ++ (blkOf s.bsum piece bk ++ post)) most s began A.length out = .ok (A.length + (blkOf s.bsum piece bk).length) (out ++ piece) (plainer piece bk) := by
  obtain ⟨n1, n2, n3, n4, n5⟩ := stnum_mod piece bk (by omega)
  have hsome := hE.some (by omega)
  have hdec := hE.dec (by omega)
  have hpl : 0 < piece.length := List.length_pos_iff.2 hp0
  have hN0 : stnum piece bk ≠ 0 := by
    unfold stnum
    have := List.length_pos_iff.2 hsome
    split <;> omega
  have hsm := sm_lt (stood piece bk)
  have hst : plainer piece bk = true → stood piece bk = piece := fun h => by unfold stood; rw [if_pos h]
  have hst2 : plainer piece bk = false → stood piece bk = bk := fun h => by unfold stood; rw [if_neg (by rw [h]; decide)]
  have hlen : (blkOf s.bsum piece bk).length = 4 + (stood piece bk).length + bs s := by
    unfold blkOf bs
    split <;> simp [lows_length] <;> omega
  have hsumz : s.bsum = true → bs s = 4 := fun h => by unfold bs; rw [if_pos h]
  generalize hN : stnum piece bk = N at *
  generalize hS : stood piece bk = S at *
  have eb : A ++ (blkOf s.bsum piece bk ++ post) = A ++ (lows N 4 ++ (S ++ ((if s.bsum = true then lows (sm S) 4 else []) ++ post))) := by
    unfold blkOf; rw [hN, hS]; simp only [List.append_assoc]
  have t1 : tk (A ++ (blkOf s.bsum piece bk ++ post)) A.length 4 = lows N 4 := by
    rw [eb]; exact tk_mid A _ _ 4 (lows_length _ _)
  have hle : le (lows N 4) = N := le_lows N 4 (by omega)
  have t2 : tk (A ++ (blkOf s.bsum piece bk ++ post)) (A.length + 4) S.length = S := by
    rw [eb]; exact tk_mid2 A _ _ _ _ _ (by rw [lows_length]) rfl
  have t3 : s.bsum = true → le (tk (A ++ (blkOf s.bsum piece bk ++ post)) (A.length + 4 + S.length) 4) = sm S := fun h => by
    have e2 : A ++ (blkOf s.bsum piece bk ++ post) = A ++ ((lows N 4 ++ S) ++ (lows (sm S) 4 ++ post)) := by
      rw [eb, if_pos h]; simp only [List.append_assoc]
    rw [e2, tk_mid2 A _ _ _ _ 4 (by rw [List.length_append, lows_length]; omega) (lows_length _ _)]
    exact le_lows _ 4 (by omega)
  have hbl : (A ++ (blkOf s.bsum piece bk ++ post)).length = A.length + (4 + S.length + bs s) + post.length := by
    rw [List.length_append, List.length_append, hlen]; omega
  unfold blockF
  rw [t1, hle, n2, t2]
  rw [if_neg (by omega), if_neg hN0, if_neg (by omega), if_neg (by omega), if_neg (fun hx => hx.2 (t3 hx.1))]
  cases hpr : plainer piece bk with
  | true =>
    rw [if_pos (n3 hpr)]
    have e := hst hpr
    rw [e] at hlen ⊢
    rw [if_neg (by omega), hlen]
    congr 1
    omega
  | false =>
    rw [if_neg (n4 hpr)]
    have e := hst2 hpr
    rw [e] at hlen ⊢
    have hd2 : dec bk (ahd s began out) ((min (siz s) (most - out.length) : Nat) : Int) = (piece, 0, 0) := by
      rw [dec_room (m := piece.length) (by omega) (by omega) (by rw [hdec]) (by rw [hdec]; show piece.length ≤ _; omega), hdec]
    simp only [hd2]
    rw [if_neg (by simp), hlen]
    congr 1
    omega
theorem blocks_read (s : Shp) (plain : List By) (hZ : siz s ≤ 4194304) (most : Nat) (hm : most ≤ 4194304) (out0 post : List By) (ho : out0.length + plain.length ≤ most) {p : Nat} {bl : List By} (h : EncB s plain p bl) : ∀ (A : List By) (k q : Nat), ∃ k' q', blocksF (A ++ (bl ++ (lows 0 4 ++ post))) most s out0.length A.length (out0 ++ plain.take p) k q = .ok (A.length + bl.length, out0 ++ plain, k', q') := by
  induction h with
  | fin p hp =>
    intro A k q
    refine ⟨k, q, ?_⟩
    rw [blocksF_eq]
    have hb : blockF (A ++ ([] ++ (lows 0 4 ++ post))) most s out0.length A.length (out0 ++ plain.take p) = .fin := by
      have t1 : tk (A ++ (lows 0 4 ++ post)) A.length 4 = lows 0 4 := tk_mid A _ _ 4 (lows_length _ _)
      rw [List.nil_append]
      unfold blockF
      rw [t1, if_neg (by rw [List.length_append, List.length_append, lows_length]; omega), if_pos (le_lows 0 4 (by decide))]
    rw [hb, List.take_of_length_le hp]
    rfl
  | step p bk rest hp hE hr ih =>
    intro A k q
    have hpiece : tk plain p (siz s) ≠ [] := fun hx => by
      have h1 := congrArg List.length hx
      have h2 := siz_pos s
      unfold tk at h1
      rw [List.length_take, List.length_drop, List.length_nil] at h1
      omega
    have hpl : (tk plain p (siz s)).length ≤ siz s := by unfold tk; rw [List.length_take]; omega
    have hpl2 : (tk plain p (siz s)).length ≤ plain.length - p := by unfold tk; rw [List.length_take, List.length_drop]; omega
    have hah : ahd s out0.length (out0 ++ plain.take p) = if s.alone = true then [] else plain.take p := by
      unfold ahd; rw [List.drop_left]
    have hbr := blk_read s most out0.length A (tk plain p (siz s)) bk (rest ++ (lows 0 4 ++ post)) (out0 ++ plain.take p) hZ (by rw [hah]; exact hE) hpl hpiece hm (by rw [List.length_append, List.length_take]; omega)
    have hnx : out0 ++ plain.take p ++ tk plain p (siz s) = out0 ++ plain.take (p + siz s) := by
      rw [List.append_assoc]; unfold tk; rw [List.take_add]
    obtain ⟨k', q', hi⟩ := ih (A ++ blkOf s.bsum (tk plain p (siz s)) bk) (k + 1) (if plainer (tk plain p (siz s)) bk = true then q + 1 else q)
    refine ⟨k', q', ?_⟩
    rw [blocksF_eq]
    have ea : A ++ (blkOf s.bsum (tk plain p (siz s)) bk ++ rest ++ (lows 0 4 ++ post)) = A ++ (blkOf s.bsum (tk plain p (siz s)) bk ++ (rest ++ (lows 0 4 ++ post))) := by simp only [List.append_assoc]
    rw [ea, hbr]
    simp only
    rw [hnx]
    rw [List.append_assoc, List.length_append] at hi
    rw [hi]
    congr 2
    rw [List.length_append]; omega
end Go.Proofs.Ytdeefemeiggolaa
