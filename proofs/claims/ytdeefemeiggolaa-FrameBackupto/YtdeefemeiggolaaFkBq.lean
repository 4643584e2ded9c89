import Derived.Test.YtdeefemeiggolaaFkAq
namespace Go.Proofs.Ytdeefemeiggolaa
open Go.RowKit
set_option linter.unusedVariables false
theorem hd_ok (s : Shp) (h1 : 4 ≤ s.block) (h2 : s.block ≤ 7) : flg (BitVec.ofNat 8 (flI s 4)) = 0 ∧ ¬ dsc (BitVec.ofNat 8 (16 * s.block)) ∧ shp (BitVec.ofNat 8 (flI s 4)) (BitVec.ofNat 8 (16 * s.block)) = s := by
  obtain ⟨bl, a, b, c, d⟩ := s
  have h1' : 4 ≤ bl := h1
  have h2' : bl ≤ 7 := h2
  have : bl = 4 ∨ bl = 5 ∨ bl = 6 ∨ bl = 7 := by omega
  clear h1 h2 h1' h2'
  rcases this with rfl | rfl | rfl | rfl <;> cases a <;> cases b <;> cases c <;> cases d <;> decide
theorem fhd_len (s : Shp) (n : Nat) : (fhd s n).length = hl s := by
  unfold fhd hl
  split <;> simp [lows_length]
theorem head_read (s : Shp) (h1 : 4 ≤ s.block) (h2 : s.block ≤ 7) (n : Nat) (hn : n < 18446744073709551616) (A post : List By) (q : Nat) (hq : A.length + 4 = q) : headF (A ++ (lows 407708164 4 ++ (fhead s n ++ post))) q = .ok (s, if s.csize = true then n else 0, q + hl s + 1) := by
  obtain ⟨a1, a2, a3⟩ := hd_ok s h1 h2
  have hfl := fhd_len s n
  have hhl2 : 2 ≤ hl s := by unfold hl; split <;> omega
  have t0 : tk (A ++ (lows 407708164 4 ++ (fhead s n ++ post))) q (hl s) = fhd s n := by
    unfold fhead
    rw [List.append_assoc]
    exact tk_mid2 A _ _ _ q _ (by rw [lows_length]; exact hq) hfl
  have t1 : tk (A ++ (lows 407708164 4 ++ (fhead s n ++ post))) q (hl s + 1) = fhead s n := tk_mid2 A _ _ _ q _ (by rw [lows_length]; exact hq) (by unfold fhead; rw [List.length_append, hfl]; rfl)
  have g0 : (A ++ (lows 407708164 4 ++ (fhead s n ++ post)))[q]? = some (BitVec.ofNat 8 (flI s 4)) := by
    have := tk_get (A ++ (lows 407708164 4 ++ (fhead s n ++ post))) q (hl s) 0 (by omega)
    rw [t0, Nat.add_zero] at this
    rw [← this]; rfl
  have g1 : (A ++ (lows 407708164 4 ++ (fhead s n ++ post)))[q + 1]? = some (BitVec.ofNat 8 (16 * s.block)) := by
    have := tk_get (A ++ (lows 407708164 4 ++ (fhead s n ++ post))) q (hl s) 1 (by omega)
    rw [t0] at this
    rw [← this]; rfl
  have g2 : (A ++ (lows 407708164 4 ++ (fhead s n ++ post)))[q + hl s]? = some (hs (fhd s n)) := by
    have := tk_get (A ++ (lows 407708164 4 ++ (fhead s n ++ post))) q (hl s + 1) (hl s) (by omega)
    rw [t1] at this
    rw [← this]
    unfold fhead
    rw [List.getElem?_append_right (by omega), hfl, Nat.sub_self]; rfl
  have hlen : (A ++ (lows 407708164 4 ++ (fhead s n ++ post))).length = q + (hl s + 1) + post.length := by
    unfold fhead
    simp only [List.length_append, lows_length, hfl, List.length_singleton]
    omega
  have hmk := headF_mk g0 a1 g1 a2 (by rw [a3]; omega) (by rw [a3, t0]; exact g2)
  rw [a3] at hmk
  rw [hmk]
  have hsz : le (tk (A ++ (lows 407708164 4 ++ (fhead s n ++ post))) (q + 2) (hl s - 2)) = if s.csize = true then n else 0 := by
    by_cases hc : s.csize = true
    · have h8 : hl s - 2 = 8 := by unfold hl; rw [if_pos hc]
      have e : A ++ (lows 407708164 4 ++ (fhead s n ++ post)) = A ++ ((lows 407708164 4 ++ [BitVec.ofNat 8 (flI s 4), BitVec.ofNat 8 (16 * s.block)]) ++ (lows n 8 ++ ([hs (fhd s n)] ++ post))) := by
        unfold fhead fhd
        rw [if_pos hc]
        simp only [List.append_assoc, List.cons_append, List.nil_append]
      rw [h8, e, tk_mid2 A _ _ _ (q + 2) 8 (by simp [lows_length]; omega) (lows_length _ _), if_pos hc]
      exact le_lows n 8 hn
    · have h0 : hl s - 2 = 0 := by unfold hl; rw [if_neg hc]
      rw [h0, if_neg hc]
      unfold tk
      rfl
  rw [hsz]
theorem frame_read (s : Shp) (h1 : 4 ≤ s.block) (h2 : s.block ≤ 7) (plain bl : List By) (hE : EncB s plain 0 bl) (hpl : plain.length ≤ 4194304) (most : Nat) (hm : most ≤ 4194304) (A post out : List By) (ho : out.length + plain.length ≤ most) :
    ∃ f, nextF (A ++ (frameB s plain bl ++ post)) most A.length out = .ok (f, out ++ plain) ∧ f.till = A.length + (frameB s plain bl).length := by
  have hZ : siz s ≤ 4194304 := Nat.le_trans (Nat.pow_le_pow_right (by decide) (show 8 + 2 * s.block ≤ 22 by omega)) (by decide)
  obtain ⟨C, hC⟩ : ∃ C, (if s.csum = true then lows (sm plain) 4 else []) = C := ⟨_, rfl⟩
  have eb : A ++ (frameB s plain bl ++ post) = A ++ (lows 407708164 4 ++ (fhead s plain.length ++ (bl ++ (lows 0 4 ++ (C ++ post))))) := by
    unfold frameB; rw [hC]; simp only [List.append_assoc]
  have hfh : (fhead s plain.length).length = hl s + 1 := by unfold fhead; rw [List.length_append, fhd_len]; rfl
  have hfl : (frameB s plain bl).length = 4 + (hl s + 1) + bl.length + 4 + C.length := by
    unfold frameB
    rw [hC]
    simp only [List.length_append, lows_length, hfh]
  rw [hfl, eb]
  have t1 : tk (A ++ (lows 407708164 4 ++ (fhead s plain.length ++ (bl ++ (lows 0 4 ++ (C ++ post)))))) A.length 4 = lows 407708164 4 := tk_mid A _ _ 4 (lows_length _ _)
  have hle : le (lows 407708164 4) = 407708164 := le_lows _ 4 (by decide)
  have hhd := head_read s h1 h2 plain.length (by omega) A (bl ++ (lows 0 4 ++ (C ++ post))) (A.length + 4) rfl
  obtain ⟨k', q', hbr⟩ := blocks_read s plain hZ most hm out (C ++ post) ho hE (A ++ (lows 407708164 4 ++ fhead s plain.length)) 0 0
  have ea : A ++ (lows 407708164 4 ++ fhead s plain.length) ++ (bl ++ (lows 0 4 ++ (C ++ post))) = A ++ (lows 407708164 4 ++ (fhead s plain.length ++ (bl ++ (lows 0 4 ++ (C ++ post))))) := by simp only [List.append_assoc]
  have el : (A ++ (lows 407708164 4 ++ fhead s plain.length)).length = A.length + 4 + hl s + 1 := by
    rw [List.length_append, List.length_append, lows_length, hfh]; omega
  rw [ea, el, List.take_zero, List.append_nil] at hbr
  have hlen : (A ++ (lows 407708164 4 ++ (fhead s plain.length ++ (bl ++ (lows 0 4 ++ (C ++ post)))))).length = A.length + (4 + (hl s + 1) + bl.length + 4 + C.length) + post.length := by
    simp only [List.length_append, lows_length, hfh]; omega
  have hnn : (out ++ plain).length - out.length = plain.length := by rw [List.length_append]; omega
  have hcsm : s.csum = true → le (tk (A ++ (lows 407708164 4 ++ (fhead s plain.length ++ (bl ++ (lows 0 4 ++ (C ++ post)))))) (A.length + 4 + hl s + 1 + bl.length + 4) 4) = sm plain := fun h => by
    have hCe : C = lows (sm plain) 4 := by rw [← hC, if_pos h]
    have e : A ++ (lows 407708164 4 ++ (fhead s plain.length ++ (bl ++ (lows 0 4 ++ (C ++ post))))) = A ++ ((lows 407708164 4 ++ (fhead s plain.length ++ (bl ++ lows 0 4))) ++ (lows (sm plain) 4 ++ post)) := by
      rw [hCe]; simp only [List.append_assoc]
    rw [e, tk_mid2 A _ _ _ _ 4 (by simp only [List.length_append, lows_length, hfh]; omega) (lows_length _ _)]
    exact le_lows _ 4 (by have := sm_lt plain; omega)
  have hC4 : s.csum = true → C.length = 4 := fun h => by rw [← hC, if_pos h, lows_length]
  have hC0 : s.csum = false → C.length = 0 := fun h => by rw [← hC, if_neg (by rw [h]; decide)]; rfl
  generalize A ++ (lows 407708164 4 ++ (fhead s plain.length ++ (bl ++ (lows 0 4 ++ (C ++ post))))) = B at *
  unfold nextF
  rw [if_neg (by omega), t1, hle, if_pos rfl]
  unfold frameF
  simp only [hhd, hbr, hnn, List.drop_left]
  rw [if_neg (by
    intro hx
    rw [if_pos hx.1] at hx
    exact hx.2 rfl)]
  cases hcs : s.csum with
  | true =>
    have h4 := hC4 hcs
    rw [if_pos rfl, if_neg (by omega), if_neg (by rw [hcsm hcs]; simp)]
    exact ⟨_, rfl, by simp only; omega⟩
  | false =>
    have h4 := hC0 hcs
    rw [if_neg (by decide)]
    exact ⟨_, rfl, by simp only; omega⟩
theorem skip_read (u : Nat) (hu : u ≤ 15) (x : List By) (hx : x.length ≤ 4194304) (most : Nat) (A post out : List By) :
    ∃ f, nextF (A ++ (skipB u x ++ post)) most A.length out = .ok (f, out) ∧ f.till = A.length + (skipB u x).length := by
  have eb : A ++ (skipB u x ++ post) = A ++ (lows (407710288 + u) 4 ++ (lows x.length 4 ++ (x ++ post))) := by
    unfold skipB; simp only [List.append_assoc]
  have hl : (skipB u x).length = 8 + x.length := by unfold skipB; simp only [List.length_append, lows_length]
  have t1 : tk (A ++ (lows (407710288 + u) 4 ++ (lows x.length 4 ++ (x ++ post)))) A.length 4 = lows (407710288 + u) 4 := tk_mid A _ _ 4 (lows_length _ _)
  have t2 : tk (A ++ (lows (407710288 + u) 4 ++ (lows x.length 4 ++ (x ++ post)))) (A.length + 4) 4 = lows x.length 4 := tk_mid2 A _ _ _ _ 4 (by rw [lows_length]) (lows_length _ _)
  have e1 : le (lows (407710288 + u) 4) = 407710288 + u := le_lows _ 4 (by omega)
  have e2 : le (lows x.length 4) = x.length := le_lows _ 4 (by omega)
  have hlen : (A ++ (lows (407710288 + u) 4 ++ (lows x.length 4 ++ (x ++ post)))).length = A.length + 8 + x.length + post.length := by
    simp only [List.length_append, lows_length]; omega
  rw [hl, eb]
  unfold nextF
  rw [t1, t2, e1, e2, if_neg (by omega), if_neg (by omega), if_pos (by omega), if_neg (by omega), if_neg (by omega)]
  exact ⟨_, rfl, by simp only; omega⟩
/-- What was put together reads back. -/
def RB (all plain : List By) (n : Nat) : Prop := ∀ (post : List By) (most : Nat), plain.length ≤ most → most ≤ 4194304 → ∃ fs : List Fm, fs.length = n ∧ readF (all ++ post) most 0 [] [] = readF (all ++ post) most all.length plain fs
theorem RB.start : RB [] [] 0 := fun post most _ _ => ⟨[], rfl, rfl⟩
theorem RB.step {all plain fr pl : List By} {n : Nat} (h : RB all plain n) (h0 : 0 < fr.length) (hn : ∀ post most, plain.length + pl.length ≤ most → most ≤ 4194304 → ∃ f : Fm, nextF (all ++ (fr ++ post)) most all.length plain = .ok (f, plain ++ pl) ∧ f.till = all.length + fr.length) : RB (all ++ fr) (plain ++ pl) (n + 1) := by
  intro post most h1 h2
  rw [List.length_append] at h1
  obtain ⟨fs, e1, e2⟩ := h (fr ++ post) most (by omega) h2
  obtain ⟨f, e3, e4⟩ := hn post most h1 h2
  refine ⟨fs ++ [f], by rw [List.length_append, e1]; rfl, ?_⟩
  rw [List.append_assoc, e2, readF_eq, if_pos (by rw [List.length_append, List.length_append]; omega), e3]
  simp only
  rw [e4, List.length_append]
theorem RB.fin {all plain : List By} {n : Nat} (h : RB all plain n) (hp : plain.length ≤ 4194304) : ∃ fs : List Fm, fs.length = n ∧ readF all plain.length 0 [] [] = .ok (plain, fs) := by
  obtain ⟨fs, e1, e2⟩ := h [] plain.length (Nat.le_refl _) hp
  rw [List.append_nil] at e2
  refine ⟨fs, e1, ?_⟩
  rw [e2, readF_eq, if_neg (by omega)]
theorem EncB.len {s : Shp} {plain : List By} {p : Nat} {bl : List By} (h : EncB s plain p bl) : ∃ cnt, bl.length ≤ (plain.length - p) + 8 * cnt ∧ (cnt = 0 ∨ (cnt - 1) * siz s < plain.length - p) := by
  induction h with
  | fin p hp => exact ⟨0, by simp, .inl rfl⟩
  | step p bk rest hp hE hr ih =>
    obtain ⟨cnt, i1, i2⟩ := ih
    have h1 := blkOf_length s.bsum (tk plain p (siz s)) bk
    have h2 : (tk plain p (siz s)).length = min (siz s) (plain.length - p) := by unfold tk; rw [List.length_take, List.length_drop]
    have h3 := siz_pos s
    refine ⟨cnt + 1, ?_, .inr ?_⟩
    · rw [List.length_append]
      by_cases h4 : siz s ≤ plain.length - p
      · rw [Nat.min_eq_left h4] at h2; omega
      · rw [Nat.min_eq_right (by omega)] at h2; omega
    · rcases i2 with i2 | i2
      · rw [i2]; simp; omega
      · have : cnt + 1 - 1 = (cnt - 1) + 1 ∨ cnt = 0 := by omega
        rcases this with e | e
        · rw [e, Nat.add_mul, Nat.one_mul]; omega
        · rw [e]; simp; omega
theorem frameB_len (s : Shp) (plain bl : List By) (h : EncB s plain 0 bl) : (frameB s plain bl).length ≤ plain.length + 8 * (plain.length / siz s + 1) + 23 := by
  obtain ⟨cnt, h1, h2⟩ := h.len
  have h3 := siz_pos s
  have h6 : (fhead s plain.length).length ≤ 11 := by unfold fhead; rw [List.length_append, fhd_len]; unfold hl; split <;> simp
  have h7 : (if s.csum = true then lows (sm plain) 4 else []).length ≤ 4 := by split <;> simp [lows_length]
  have hc : cnt ≤ plain.length / siz s + 1 := by
    rcases h2 with h2 | h2
    · rw [h2]; exact Nat.zero_le _
    · have := (Nat.le_div_iff_mul_le (by omega : 0 < siz s)).2 (show (cnt - 1) * siz s ≤ plain.length by omega)
      omega
  unfold frameB
  simp only [List.length_append, lows_length]
  omega
theorem knd_frame (s : Shp) (plain bl : List By) : ∀ r, frameB s plain bl = lows 407708164 4 ++ r → (frameB s plain bl).take 4 = lows 407708164 4 := fun r h => by
  rw [h]
  exact List.take_left' (lows_length _ _)
end Go.Proofs.Ytdeefemeiggolaa
