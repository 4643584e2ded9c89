import Derived.Test.YtdeefemeiggolaaFtAq
namespace Go.Proofs.Ytdeefemeiggolaa
open Go.RowKit
set_option linter.unusedVariables false
/-! ### A frame with one byte changed is refused -/
/-- The first blocks of plain bytes, up to a place. -/
inductive EncP (s : Shp) (plain : List By) : List By → Nat → Prop where
  | nil : EncP s plain [] 0
  | snoc (done : List By) (p : Nat) (bk : List By) (h : EncP s plain done p) (hp : p < plain.length) (hE : EncOf (tk plain p (siz s)) (if s.alone = true then [] else plain.take p) bk) : EncP s plain (done ++ blkOf s.bsum (tk plain p (siz s)) bk) (p + siz s)
theorem piece_facts (s : Shp) (plain : List By) (p : Nat) (hp : p < plain.length) : tk plain p (siz s) ≠ [] ∧ (tk plain p (siz s)).length ≤ siz s ∧ (tk plain p (siz s)).length ≤ plain.length - p := by
  refine ⟨fun hx => ?_, by unfold tk; rw [List.length_take]; omega, by unfold tk; rw [List.length_take, List.length_drop]; omega⟩
  have h1 := congrArg List.length hx
  have h2 := siz_pos s
  unfold tk at h1
  rw [List.length_take, List.length_drop, List.length_nil] at h1
  omega
/-- The first blocks are read, whatever follows. -/
theorem pre_read (s : Shp) (plain : List By) (hZ : siz s ≤ 4194304) (most : Nat) (hm : most ≤ 4194304) (out0 : List By) (ho : out0.length + plain.length ≤ most) {done : List By} {p : Nat} (h : EncP s plain done p) : ∀ (A X : List By) (k q : Nat), ∃ k' q', blocksF (A ++ (done ++ X)) most s out0.length A.length out0 k q = blocksF (A ++ (done ++ X)) most s out0.length (A.length + done.length) (out0 ++ plain.take p) k' q' := by
  induction h with
  | nil => intro A X k q; exact ⟨k, q, by simp⟩
  | snoc done p bk h hp hE ih =>
    intro A X k q
    obtain ⟨f1, f2, f3⟩ := piece_facts s plain p hp
    obtain ⟨k1, q1, e1⟩ := ih A (blkOf s.bsum (tk plain p (siz s)) bk ++ X) k q
    have hah : ahd s out0.length (out0 ++ plain.take p) = if s.alone = true then [] else plain.take p := by
      unfold ahd; rw [List.drop_left]
    have hbr := blk_read s most out0.length (A ++ done) (tk plain p (siz s)) bk X (out0 ++ plain.take p) hZ (by rw [hah]; exact hE) f2 f1 hm (by rw [List.length_append, List.length_take]; omega)
    have hnx : out0 ++ plain.take p ++ tk plain p (siz s) = out0 ++ plain.take (p + siz s) := by
      rw [List.append_assoc]; unfold tk; rw [List.take_add]
    refine ⟨k1 + 1, if plainer (tk plain p (siz s)) bk = true then q1 + 1 else q1, ?_⟩
    rw [List.append_assoc done, e1, blocksF_eq]
    rw [List.append_assoc, List.length_append] at hbr
    rw [hbr]
    simp only
    rw [hnx, List.length_append, Nat.add_assoc]
/-- A block whose bytes or sum were changed. -/
theorem blk_bad (s : Shp) (hs : s.bsum = true) (most began : Nat) (A post out : List By) (N : Nat) (S T : List By) (hN : N < 4294967296) (hN0 : N ≠ 0) (hSl : S.length = N % 2147483648) (hSz : S.length ≤ siz s) (hT : T.length = 4) (hne : le T ≠ sm S) :
    blockF (A ++ (lows N 4 ++ (S ++ (T ++ post)))) most s began A.length out = .bad (A.length + 4 + S.length) 44 := by
  have t1 : tk (A ++ (lows N 4 ++ (S ++ (T ++ post)))) A.length 4 = lows N 4 := tk_mid A _ _ 4 (lows_length _ _)
  have hle : le (lows N 4) = N := le_lows N 4 (by omega)
  have t2 : tk (A ++ (lows N 4 ++ (S ++ (T ++ post)))) (A.length + 4) S.length = S := tk_mid2 A _ _ _ _ _ (by rw [lows_length]) rfl
  have t3 : tk (A ++ (lows N 4 ++ (S ++ (T ++ post)))) (A.length + 4 + S.length) 4 = T := by
    have e : A ++ (lows N 4 ++ (S ++ (T ++ post))) = A ++ ((lows N 4 ++ S) ++ (T ++ post)) := by simp only [List.append_assoc]
    rw [e]
    exact tk_mid2 A _ _ _ _ 4 (by rw [List.length_append, lows_length]; omega) hT
  have hbs : bs s = 4 := by unfold bs; rw [if_pos hs]
  have hbl : (A ++ (lows N 4 ++ (S ++ (T ++ post)))).length = A.length + 4 + S.length + 4 + post.length := by
    simp only [List.length_append, lows_length, hT]; omega
  unfold blockF
  rw [t1, hle, ← hSl, t2, t3, if_neg (by omega), if_neg hN0, if_neg (by omega), if_neg (by omega), if_pos ⟨hs, hne⟩]
/-- Where the blocks are refused, so is the frame. -/
theorem frame_bad (s : Shp) (h1 : 4 ≤ s.block) (h2 : s.block ≤ 7) (plain X : List By) (hpl : plain.length ≤ 4194304) (a y : Nat) (hb : blocksF ([] ++ (lows 407708164 4 ++ (fhead s plain.length ++ X))) 4194304 s 0 (4 + hl s + 1) [] 0 0 = .bad a y) : (fdec (lows 407708164 4 ++ (fhead s plain.length ++ X)) 4194304).2.2 ≠ 0 := by
  have hhd := head_read s h1 h2 plain.length (by omega) [] X 4 rfl
  have t1 : tk ([] ++ (lows 407708164 4 ++ (fhead s plain.length ++ X))) 0 4 = lows 407708164 4 := tk_mid [] _ _ 4 (lows_length _ _)
  have hle : le (lows 407708164 4) = 407708164 := le_lows _ 4 (by decide)
  rw [List.nil_append] at hhd t1 hb
  have hlen : 4 ≤ (lows 407708164 4 ++ (fhead s plain.length ++ X)).length := by rw [List.length_append, lows_length]; omega
  generalize lows 407708164 4 ++ (fhead s plain.length ++ X) = B at *
  have hfr : frameF B 4194304 0 [] = .bad a y := by
    unfold frameF
    simp only [Nat.zero_add, hhd, List.length_nil]
    rw [hb]
  have hnx : nextF B 4194304 0 [] = .bad a y := by
    unfold nextF
    rw [if_neg (by omega), t1, hle, if_pos rfl, hfr]
  have hrd : readF B 4194304 0 [] [] = .bad a y := by
    rw [readF_eq, if_pos (by omega), hnx]
  have hy := readF_bad hrd
  have : fdec B (4194304 : Int) = ([], a, y) := by
    unfold fdec
    rw [if_neg (by decide)]
    show (match readF B 4194304 0 [] [] with | .bad a y => ([], a, y) | .ok (out, _) => (out, B.length, 0)) = _
    rw [hrd]
  rw [this]
  exact hy
end Go.Proofs.Ytdeefemeiggolaa
