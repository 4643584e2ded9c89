import Derived.Test.YtdeefemeiggolaaFtJq
namespace Go.Proofs.Ytdeefemeiggolaa
open Go.RowKit
set_option linter.unusedVariables false
/-! ### FrameBit: the loop in memory -/
theorem Ow.some {g : Nat} {v : Value} {l : List By} {w : World} (h : Ow g v l w) (j : Nat) (x : By) (hj : l[j]? = some x) : w.cell? ⟨g, j, none⟩ = some (.int .u8 x.toNat) := by
  obtain ⟨h1, h2⟩ := List.getElem?_eq_some_iff.1 hj
  have := (h.at j h1).1
  rw [h2] at this
  exact this
/-- A round of the law's loop, as it lies in memory. -/
theorem bt_step (s : Shp) (plain bl : List By) (wh at' : Nat) (found : Bool) (done rest : List By) (p : Nat) (hI : BtI s plain bl wh at' found done rest p) (h1 : 4 ≤ s.block) (h2 : s.block ≤ 7) (hpl : plain.length ≤ 4194304) :
    ∃ x0 x1 x2 x3 : By, (frameB s plain bl)[at']? = some x0 ∧ (frameB s plain bl)[at' + 1]? = some x1 ∧ (frameB s plain bl)[at' + 2]? = some x2 ∧ (frameB s plain bl)[at' + 3]? = some x3 ∧ at' + 4 ≤ (frameB s plain bl).length ∧
      ((x0.toNat = 0 ∧ x1.toNat = 0 ∧ x2.toNat = 0 ∧ x3.toNat = 0) ∨ ∃ (n : Nat) (lies : Bool) (done' rest' : List By) (p' : Nat), x0.toNat + 256 * x1.toNat + 65536 * x2.toNat + 16777216 * (x3.toNat % 128) = n ∧ (128 ≤ x3.toNat ↔ lies = true) ∧ n ≠ 0 ∧ at' + 4 + n + bs s ≤ (frameB s plain bl).length ∧
        ∀ fd : Bool, (fd = true → found = true ∨ (s.bsum = true ∧ at' + 4 ≤ wh ∧ wh < at' + 4 + n + 4) ∨ (s.bsum = false ∧ s.alone = true ∧ s.csum = true ∧ lies = true ∧ at' + 4 ≤ wh ∧ wh < at' + 4 + n)) → BtI s plain bl wh (at' + 4 + n + bs s) fd done' rest' p') := by
  have hfh : (fhead s plain.length).length = hl s + 1 := by unfold fhead; rw [List.length_append, fhd_len]; rfl
  have hA : (lows 407708164 4 ++ (fhead s plain.length ++ done)).length = at' := by
    simp only [List.length_append, lows_length, hfh]
    have := hI.2.2.2.1
    omega
  have e0 : frameB s plain bl = (lows 407708164 4 ++ (fhead s plain.length ++ done)) ++ (rest ++ (lows 0 4 ++ (if s.csum = true then lows (sm plain) 4 else []))) := by
    rw [frameB_right, hI.1]; simp only [List.append_assoc]
  rcases hI.round h1 h2 hpl with hr | ⟨bk, rest', hr, hp, n1, n2, n3, n4, n5, hn⟩
  · rw [hr, List.nil_append] at e0
    have e1 : lows 0 4 = [0#8, 0#8, 0#8, 0#8] := by decide
    rw [e1] at e0
    obtain ⟨g0, g1, g2, g3⟩ := num_at _ _ _ _ _ _ _ e0
    rw [hA] at g0 g1 g2 g3
    have hl := (List.getElem?_eq_some_iff.1 g3).1
    exact ⟨_, _, _, _, g0, g1, g2, g3, by omega, .inl ⟨rfl, rfl, rfl, rfl⟩⟩
  · obtain ⟨x0, x1, x2, x3, f1, f2, f3⟩ := lows4 (stnum (tk plain p (siz s)) bk) n1
    have hlen : (blkOf s.bsum (tk plain p (siz s)) bk).length = 4 + (stood (tk plain p (siz s)) bk).length + bs s := by
      unfold blkOf bs
      split <;> simp [lows_length] <;> omega
    have hll : at' + 4 + (stood (tk plain p (siz s)) bk).length + bs s ≤ (frameB s plain bl).length := by
      rw [e0, List.length_append, hA, hr, List.length_append, List.length_append, hlen]; omega
    have e2 : frameB s plain bl = (lows 407708164 4 ++ (fhead s plain.length ++ done)) ++ ([x0, x1, x2, x3] ++ (stood (tk plain p (siz s)) bk ++ ((if s.bsum = true then lows (sm (stood (tk plain p (siz s)) bk)) 4 else []) ++ (rest' ++ (lows 0 4 ++ (if s.csum = true then lows (sm plain) 4 else [])))))) := by
      rw [e0, hr, ← f1]; unfold blkOf; simp only [List.append_assoc]
    obtain ⟨g0, g1, g2, g3⟩ := num_at _ _ _ _ _ _ _ e2
    rw [hA] at g0 g1 g2 g3
    refine ⟨x0, x1, x2, x3, g0, g1, g2, g3, by omega, .inr ⟨(stood (tk plain p (siz s)) bk).length, plainer (tk plain p (siz s)) bk, _, rest', _, by omega, ?_, ?_, hll, hn⟩⟩
    · rw [f3, n4]
    · obtain ⟨k1, k2, k3⟩ := piece_facts s plain p hp
      intro h0
      rw [h0] at n3
      unfold stnum at n2 n3
      unfold stood at h0
      split at h0 <;> rename_i hx
      · exact k1 (List.eq_nil_of_length_eq_zero h0)
      · rw [if_neg hx] at n2; omega
/-- The end: a bit in the content's sum. -/
theorem bt_end (s : Shp) (plain bl : List By) (wh at' : Nat) (found : Bool) (done rest : List By) (p : Nat) (hI : BtI s plain bl wh at' found done rest p) (h1 : 4 ≤ s.block) (h2 : s.block ≤ 7) (hpl : plain.length ≤ 4194304) (hE : EncB s plain 0 bl) (hw : wh < (frameB s plain bl).length) (fd : Bool)
    (hf : fd = true → found = true ∨ (s.csum = true ∧ (frameB s plain bl).length - 4 ≤ wh)) : fd = true → Ref (frameB s plain bl) wh := by
  intro hx
  rcases hf hx with h | ⟨h, h'⟩
  · exact hI.2.2.2.2 h
  · exact ref_csum s h1 h2 h plain bl hpl hE wh h' hw
end Go.Proofs.Ytdeefemeiggolaa
