import Derived.Test.YtffhpoilifgcdaaDoorVbm
namespace Go.Proofs.YtffhpoilifgcdaaDoor
open Go.RowKit
set_option linter.unusedVariables false
/-! ### What was put into records is read (pure) -/
theorem rdO_congr (R S : List By) (r f : Nat) (acc : List (Nat × Nat)) (h : ∀ j, f ≤ j → j < f + r * 24 → R[j]? = S[j]?) : rdO R r f acc = rdO S r f acc := by
  induction r generalizing f acc with
  | zero => rfl
  | succ r ih =>
    have e : (R.drop f).take 24 = (S.drop f).take 24 := by
      apply List.ext_getElem?
      intro j
      rw [List.getElem?_take, List.getElem?_take]
      split
      · rw [List.getElem?_drop, List.getElem?_drop]
        exact h (f + j) (by omega) (by omega)
      · rfl
    rw [rdO, rdO, e, ih (f + 24) _ (fun j h1 h2 => h j (by omega) (by omega))]
def nt (x : Rg) : Nat × Nat := (x.1.toNat, x.2.toNat)
theorem one2_slB (x : Rg) (h : OkG x) : one2 (slB x) = (nt x, 0) ∧ slB x ≠ z24 := by
  obtain ⟨h1, h2, h3⟩ := h
  obtain ⟨_, l1, s1⟩ := pn12 x.1 h1 (by omega)
  obtain ⟨_, l2, s2⟩ := pn12 (x.2 - x.1) (by omega) (by omega)
  have t1 : (slB x).take 12 = pnL x.1 12 := by unfold slB; rw [← l1, List.take_left]
  have t2 : (slB x).drop 12 = pnL (x.2 - x.1) 12 := by unfold slB; rw [← l1, List.drop_left]
  refine ⟨?_, fun e => ?_⟩
  · unfold one2
    rw [t1, t2, s1, s2]
    simp only [ne_eq, not_true_eq_false, if_false]
    rw [if_neg (by omega)]
    unfold nt
    congr 2
    omega
  · obtain ⟨y, r, e1, hy⟩ := pn12_ne x.1 h1 (by omega)
    unfold slB at e
    rw [e1, List.cons_append] at e
    unfold z24 at e
    have := congrArg (fun l => l[0]?) e
    simp at this
    exact hy this
theorem rdO_tab (l : List Rg) (h : ∀ x ∈ l, OkG x) (r : Nat) (A B : List By) (acc : List (Nat × Nat)) :
    rdO (A ++ (slots (l.take r) ++ (z8 ((r - min l.length r) * 24) ++ B))) r A.length acc = (acc ++ (l.take r).map nt, 0) := by
  induction r generalizing l A acc with
  | zero => simp [rdO]
  | succ r ih =>
    cases l with
    | nil =>
      have e : A ++ (slots (([] : List Rg).take (r + 1)) ++ (z8 ((r + 1 - min ([] : List Rg).length (r + 1)) * 24) ++ B)) = A ++ (z24 ++ (z8 (r * 24) ++ B)) := by
        simp only [List.take_nil, List.length_nil, Nat.zero_min, Nat.sub_zero]
        rw [show (r + 1) * 24 = 24 + r * 24 by omega, z8_add]
        simp [slots, z8, z24]
      rw [e, rdO, List.drop_left, show (24 : Nat) = z24.length from rfl, List.take_left, if_pos rfl]
      simp
    | cons x l =>
      have hx := h x (by simp)
      have hl24 := slB_len x hx
      obtain ⟨o1, o2⟩ := one2_slB x hx
      have e : A ++ (slots ((x :: l).take (r + 1)) ++ (z8 ((r + 1 - min (x :: l).length (r + 1)) * 24) ++ B)) = A ++ (slB x ++ (slots (l.take r) ++ (z8 ((r - min l.length r) * 24) ++ B))) := by
        rw [List.take_succ_cons]
        have : r + 1 - min (x :: l).length (r + 1) = r - min l.length r := by rw [List.length_cons]; omega
        rw [this]
        unfold slots
        simp
      rw [e, rdO, List.drop_left]
      have ht : (slB x ++ (slots (l.take r) ++ (z8 ((r - min l.length r) * 24) ++ B))).take 24 = slB x := by rw [← hl24, List.take_left]
      rw [ht, if_neg o2, o1, if_neg (by simp)]
      have := ih l (fun y hy => h y (by simp [hy])) (A ++ slB x) (acc ++ [nt x])
      rw [List.length_append, hl24, List.append_assoc] at this
      rw [this]
      simp
/-- A table that was laid reads as its ranges. -/
theorem rdO_put (R : List By) (hR : R.length = 512) (f r : Nat) (hfr : f + r * 24 < 512) (l : List Rg) (h : ∀ x ∈ l, OkG x) : rdO (pto R f (tabI r l (min l.length r))) r f [] = ((l.take r).map nt, 0) := by
  have hf : (R.take f).length = f := by rw [List.length_take]; omega
  have := rdO_tab l h r (R.take f) ([flg r l] ++ R.drop (f + (tabI r l (min l.length r)).length)) []
  rw [hf, List.nil_append] at this
  rw [← this]
  congr 1
  unfold pto tabI
  have : l.take (min l.length r) = l.take r := by
    by_cases hh : l.length ≤ r
    · rw [Nat.min_eq_left hh, List.take_of_length_le (Nat.le_refl _), List.take_of_length_le hh]
    · rw [Nat.min_eq_right (by omega)]
  rw [this]
  simp
theorem flag_put (R : List By) (hR : R.length = 512) (f r : Nat) (hfr : f + r * 24 < 512) (l : List Rg) (h : ∀ x ∈ l, OkG x) : (pto R f (tabI r l (min l.length r)))[f + r * 24]? = some (flg r l) := by
  have hlen := tabI_len r l h (min l.length r) (by omega) (by omega)
  rw [pto_at _ _ _ (by omega), if_pos (by omega), show f + r * 24 - f = r * 24 by omega]
  unfold tabI at hlen ⊢
  rw [← List.append_assoc] at hlen ⊢
  rw [List.length_append, List.length_singleton] at hlen
  rw [List.getElem?_append_right (by omega), show r * 24 - (slots (l.take (min l.length r)) ++ z8 ((r - min l.length r) * 24)).length = 0 by omega]
  rfl
theorem pto_fld (X N : List By) (o : Nat) (h : o + N.length ≤ X.length) : ((pto X o N).drop o).take N.length = N := by
  apply List.ext_getElem?
  intro j
  rw [List.getElem?_take]
  split
  · rw [List.getElem?_drop, pto_at _ _ _ h, if_pos (by omega)]
    congr 1
    omega
  · rw [List.getElem?_eq_none (by omega)]
theorem fst_read (R : List By) (hR : R.length = 512) (l : List Rg) (h : ∀ x ∈ l, OkG x) (z : Int) (h1 : 0 ≤ z) (h2 : z ≤ 9223372036854775807) :
    rdO (fstR R l z) 4 386 [] = ((l.take 4).map nt, 0) ∧ szN (((fstR R l z).drop 483).take 12) = (z.toNat, 0) ∧ (fstR R l z).getD 482 0 = flg 4 l := by
  have hlen1 : (pto R 386 (tabI 4 l (min l.length 4))).length = 512 := by rw [pto_len _ _ _ (by rw [tabI_len 4 l h _ (by omega) (by omega)]; omega)]; exact hR
  obtain ⟨_, ln, sn⟩ := pn12 z h1 h2
  refine ⟨?_, ?_, ?_⟩
  · rw [← rdO_put R hR 386 4 (by omega) l h]
    apply rdO_congr
    intro j hj1 hj2
    unfold fstR
    rw [pto_at _ _ _ (by rw [ln, hlen1]; decide), if_neg (by omega)]
  · have := pto_fld (pto R 386 (tabI 4 l (min l.length 4))) (pnL z 12) 483 (by rw [ln, hlen1]; decide)
    rw [ln] at this
    unfold fstR
    rw [this]
    exact sn
  · have := flag_put R hR 386 4 (by omega) l h
    unfold fstR
    rw [List.getD_eq_getElem?_getD, pto_at _ _ _ (by rw [ln, hlen1]; decide), if_neg (by omega), this]
    rfl
theorem fur_read (l : List Rg) (h : ∀ x ∈ l, OkG x) : rdO (furR l) 21 0 [] = ((l.take 21).map nt, 0) ∧ (furR l).getD 504 0 = flg 21 l := by
  refine ⟨rdO_put zrec zrec_length 0 21 (by omega) l h, ?_⟩
  have := flag_put zrec zrec_length 0 21 (by omega) l h
  unfold furR
  rw [List.getD_eq_getElem?_getD]
  rw [show 0 + 21 * 24 = 504 by rfl] at this
  rw [this]
  rfl
theorem nt_rg (l : List Rg) (h : ∀ x ∈ l, OkG x) : rgL (l.map nt) = l := by
  unfold rgL
  rw [List.map_map]
  conv => rhs; rw [← List.map_id l]
  apply List.map_congr_left
  intro x hx
  obtain ⟨h1, h2, h3⟩ := h x hx
  simp only [Function.comp, nt, id]
  exact Prod.ext (by simp only; omega) (by simp only; omega)
theorem flg_ne (r : Nat) (l : List Rg) : decide (flg r l ≠ 0#8) = decide (r < l.length) := by
  unfold flg
  by_cases h : r < l.length
  · rw [if_pos h, decide_eq_true h]; decide
  · rw [if_neg h, decide_eq_false h]; decide
end Go.Proofs.YtffhpoilifgcdaaDoor
