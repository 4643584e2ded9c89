import Derived.Test.YtegabbfdnpjkkaaRanC
namespace Go.Proofs.Ytegabbfdnpjkkaa
open Go.RowKit
set_option linter.unusedVariables false

theorem end_list (xs vs : List Rg) (n m : Nat) (hl : n + m ≤ xs.length) (hm : m ≤ vs.length) : (spl xs n (vs.take m)).take (n + m) = xs.take n ++ vs.take m ++ (xs.take n).drop n := by
  have l2 : (vs.take m).length = m := by simp; omega
  have l3 : (xs.take n).length = n := by simp; omega
  have e : (xs.take n).drop n = [] := List.drop_of_length_le (by omega)
  rw [e, List.append_nil]
  unfold spl
  rw [List.take_append_of_le_length (by simp; omega), List.take_of_length_le (by simp; omega)]

set_option maxHeartbeats 2000000 in
set_option maxRecDepth 100000 in
theorem insert_end_room (g n c gv m cv : Nat) (xs vs : List Rg) (w : World) (h : RowB g xs w) (hv : RowB gv vs w) (hne : gv ≠ g) (hm : 0 < m) (hroom : n + m ≤ c) (hc : xs.length = c) (hc63 : c ≤ maxLen) (hml : m ≤ vs.length) :
    Calls Try.prog 62 #[.slice (some ⟨g, 0, none⟩) n c, .int .i64 n, .slice (some ⟨gv, 0, none⟩) m cv] w fun e w' => Rowed g w w' e (xs.take n ++ vs.take m ++ (xs.take n).drop n) := by
  unfold maxLen at hc63
  have hz1 : ¬ ((m : Int) = 0) := by omega
  have hap : ∃ W, (∀ ty, (Builtin.append_ #[45, 45] ty #[.slice (some ⟨g, 0, none⟩) n c, .slice (some ⟨gv, 0, none⟩) m cv]).run Try.prog w = .ok (.slice (some ⟨g, 0, none⟩) (n + m) c) W) ∧ RowB g (spl xs n (vs.take m)) W ∧ Fr (fun k => k = g) w W :=
    ⟨_, fun ty => by
      have := app_room w ty g 0 n c gv 0 m cv xs vs h hv hroom (by omega) (by omega)
      simp only [Nat.zero_mul, Nat.zero_add, List.drop_zero] at this
      exact this, h.setRow _, (Fr.refl _ _).setRow g _ (.inl rfl)⟩
  obtain ⟨W, hap, hR, hF⟩ := hap
  have hfin : ∀ e : Ending, e = .returned (.slice (some ⟨g, 0, none⟩) (n + m) c) → Rowed g w W e (xs.take n ++ vs.take m ++ (xs.take n).drop n) := fun e he => by
    have hL : (xs.take n ++ vs.take m ++ (xs.take n).drop n).length = n + m := by simp; omega
    have hl2 : (spl xs n (vs.take m)).length = c := by rw [spl_length _ _ _ (by simp; omega), hc]
    exact Rowed.mk g _ he hL.symm hl2.symm (by rw [hl2]; exact hc63) (by omega) (by rw [hL]; exact end_list xs vs n m (by omega) hml) hR hF (.inl rfl)
  generalize xs.take n ++ vs.take m ++ (xs.take n).drop n = L at hfin ⊢
  have FIN : Hid _ := hfin
  clear hfin hR hF
  go_enter Try.func62, Try.ntmps62
  go_wp2_with (at_builtin; refine Lib.wpList_append_run _ rfl _ _ _ _ rfl _ _ rfl rfl _ _ (hap _) ?_)
  all_goals
    go_ret
    exact FIN.out _ rfl

theorem new_list (A B : List Rg) (n k : Nat) (h : (A ++ B).length = n) : (A ++ B ++ List.replicate k ((0, 0) : Rg)).take n = A ++ B := by
  rw [List.take_append_of_le_length (by omega), List.take_of_length_le (by omega)]

set_option maxHeartbeats 2000000 in
set_option maxRecDepth 100000 in
theorem insert_end_grow (g n c gv m cv : Nat) (xs vs : List Rg) (w : World) (h : RowB g xs w) (hv : RowB gv vs w) (hne : gv ≠ g) (hm : 0 < m) (hroom : c < n + m) (hnc : n ≤ c) (hc : xs.length = c) (hc63 : c ≤ maxLen) (hml : m ≤ vs.length) (hbig : (n + m) * 16 ≤ 140737488355328) :
    Calls Try.prog 62 #[.slice (some ⟨g, 0, none⟩) n c, .int .i64 n, .slice (some ⟨gv, 0, none⟩) m cv] w fun e w' => Rowed g w w' e (xs.take n ++ vs.take m ++ (xs.take n).drop n) := by
  unfold maxLen at hc63
  have hz1 : ¬ ((m : Int) = 0) := by omega
  have hap : ∃ W G, (∀ ty, (Builtin.append_ #[45, 45] ty #[.slice (some ⟨g, 0, none⟩) n c, .slice (some ⟨gv, 0, none⟩) m cv]).run Try.prog w = .ok (.slice (some ⟨w.heap.size, 0, none⟩) (n + m) G) W) ∧ n + m ≤ G ∧ G ≤ maxLen ∧ RowB w.heap.size (xs.take n ++ vs.take m ++ List.replicate (G - (n + m)) (0, 0)) W ∧ Fr (fun k => k = g) w W :=
    ⟨_, _, fun ty => by
      have := app_grow w ty g 0 n c gv 0 m cv xs vs h hv hroom (by omega) (by omega) hbig
      simp only [Nat.zero_mul, List.drop_zero] at this
      exact this, grownCap_ge _ _ _ _, grownCap_le_maxLen w _ _ _ (by unfold maxLen; omega), RowB.new w.drew _, (Fr.refl _ _).drew.alloc _⟩
  obtain ⟨W, G, hap, hG1, hG2, hR, hF⟩ := hap
  have hfin : ∀ e : Ending, e = .returned (.slice (some ⟨w.heap.size, 0, none⟩) (n + m) G) → Rowed g w W e (xs.take n ++ vs.take m ++ (xs.take n).drop n) := fun e he => by
    have e0 : (xs.take n).drop n = [] := List.drop_of_length_le (by simp; omega)
    have hL : (xs.take n ++ vs.take m).length = n + m := by simp; omega
    rw [e0, List.append_nil]
    exact Rowed.mk _ _ he hL.symm (by rw [List.length_append, hL]; simp; omega) (by rw [List.length_append, hL]; simp; unfold maxLen at hG2 ⊢; omega) (by simp only [List.length_append]; omega) (by rw [hL]; exact new_list _ _ _ _ hL) hR hF (.inr (Nat.le_refl _))
  generalize xs.take n ++ vs.take m ++ (xs.take n).drop n = L at hfin ⊢
  have FIN : Hid _ := hfin
  clear hfin hR hF hG1 hG2
  go_enter Try.func62, Try.ntmps62
  go_wp2_with (at_builtin; refine Lib.wpList_append_run _ rfl _ _ _ _ rfl _ _ rfl rfl _ _ (hap _) ?_)
  all_goals
    go_ret
    exact FIN.out _ rfl

theorem grow_list (xs vs : List Rg) (n m i k : Nat) (hi : i ≤ n) (hl : n ≤ xs.length) (hm : m ≤ vs.length) :
    (spl (spl (xs.take i ++ List.replicate (n + m - i) ((0, 0) : Rg) ++ List.replicate k ((0, 0) : Rg)) i (vs.take m)) (i + m) ((xs.drop i).take (n - i))).take (n + m) = xs.take i ++ vs.take m ++ (xs.take n).drop i := by
  have l1 : ((xs.drop i).take (n - i)).length = n - i := by simp; omega
  have l2 : (vs.take m).length = m := by simp; omega
  have l3 : (xs.take i).length = i := by simp; omega
  have l4 : (xs.take i ++ List.replicate (n + m - i) ((0, 0) : Rg) ++ List.replicate k ((0, 0) : Rg)).length = n + m + k := by simp; omega
  apply List.ext_getElem?
  intro j
  rw [List.getElem?_take, get_spl _ _ _ (by rw [spl_length _ _ _ (by omega)]; omega), get_spl _ _ _ (by omega), l1, l2, List.append_assoc (xs.take i) (vs.take m), List.getElem?_append (l₁ := xs.take i), l3, List.getElem?_append (l₁ := vs.take m), l2, List.append_assoc, List.getElem?_append (l₁ := xs.take i), l3]
  simp only [List.getElem?_take, List.getElem?_drop]
  by_cases h1 : j < i
  · simp only [h1, if_true, if_pos (show j < n + m by omega), if_pos (show j < i + m by omega)]
  · by_cases h2 : j < i + m
    · simp only [h1, if_false, if_pos h2, if_pos (show j < n + m by omega), if_pos (show j - i < m by omega)]
    · by_cases h3 : j < n + m
      · simp only [h1, h2, if_false, if_pos h3, if_pos (show j < i + m + (n - i) by omega), if_pos (show j - (i + m) < n - i by omega), if_neg (show ¬ j - i < m by omega), if_pos (show i + (j - i - m) < n by omega)]
        congr 1; omega
      · simp only [h1, if_false, if_neg h3, if_neg (show ¬ j - i < m by omega), if_neg (show ¬ i + (j - i - m) < n by omega)]

set_option maxHeartbeats 4000000 in
set_option maxRecDepth 100000 in
theorem insert_grow (g n c i gv m cv : Nat) (xs vs : List Rg) (w : World) (h : RowB g xs w) (hv : RowB gv vs w) (hne : gv ≠ g) (hi : i < n) (hm : 0 < m) (hroom : c < n + m) (hnc : n ≤ c) (hc : xs.length = c) (hc63 : c ≤ maxLen) (hml : m ≤ vs.length) (hbig : (n + m) * 16 ≤ 140737488355328) :
    Calls Try.prog 62 #[.slice (some ⟨g, 0, none⟩) n c, .int .i64 i, .slice (some ⟨gv, 0, none⟩) m cv] w fun e w' => Rowed g w w' e (xs.take i ++ vs.take m ++ (xs.take n).drop i) := by
  unfold maxLen at hc63
  have hz1 : ¬ ((m : Int) = 0) := by omega
  have hz2 : ¬ ((i : Int) = (n : Int)) := by omega
  have hz3 : (c : Int) < (n : Int) + (m : Int) := by omega
  have hgw := h.lt
  have hgv := hv.lt
  have hap : ∃ W G, (∀ ty, (Builtin.append_ #[45, 3] ty #[.slice (some ⟨g, 0, none⟩) i c, .int .i64 ((n : Int) + (m : Int) - (i : Int))]).run Try.prog w = .ok (.slice (some ⟨w.heap.size, 0, none⟩) (n + m) G) W) ∧ n + m ≤ G ∧ G ≤ maxLen ∧
      RowB w.heap.size (xs.take i ++ List.replicate (n + m - i) ((0, 0) : Rg) ++ List.replicate (G - (n + m)) (0, 0)) W ∧ Fr (fun k => k = g) w W ∧ RowB g xs W ∧ RowB gv vs W :=
    ⟨_, _, fun ty => by
      have := app_zeros w ty g i c (n + m - i) xs h (by omega) (by omega) (by omega) (by omega)
      rw [show i + (n + m - i) = n + m by omega] at this
      rw [show (n : Int) + (m : Int) - (i : Int) = ((n + m - i : Nat) : Int) by omega]
      exact this, grownCap_ge _ _ _ _, grownCap_le_maxLen w _ _ _ (by unfold maxLen; omega), RowB.new w.drew _, (Fr.refl _ _).drew.alloc _, RowB.alloc (w := w.drew) h _, RowB.alloc (w := w.drew) hv _⟩
  obtain ⟨W1, G, hap, hG1, hG2, hR1, hF1, hX1, hV1⟩ := hap
  have hl1 : (xs.take i ++ List.replicate (n + m - i) ((0, 0) : Rg) ++ List.replicate (G - (n + m)) ((0, 0) : Rg)).length = G := by simp; omega
  obtain ⟨W2, hcp2, hR2, hF2, hK2⟩ := copy_step w W1 w.heap.size i (n + m - i) gv 0 m m _ vs hR1 hV1 (by simp only [Nat.min_def]; split <;> omega) (by omega) (by omega) (fun k => k = g) (.inr (Nat.le_refl _)) hF1
  rw [List.drop_zero] at hR2
  have hX2 := hK2 g xs (by omega) hX1
  have hl2 : (spl (xs.take i ++ List.replicate (n + m - i) ((0, 0) : Rg) ++ List.replicate (G - (n + m)) ((0, 0) : Rg)) i (vs.take m)).length = G := by rw [spl_length _ _ _ (by rw [hl1]; simp; omega), hl1]
  obtain ⟨W3, hcp3, hR3, hF3, hK3⟩ := copy_step w W2.drew w.heap.size (i + m) (n + m - (i + m)) g i (n - i) (n - i) _ xs hR2 hX2 (by simp only [Nat.min_def]; split <;> omega) (by omega) (by omega) (fun k => k = g) (.inr (Nat.le_refl _)) hF2.drew
  have hfin : ∀ e : Ending, e = .returned (.slice (some ⟨w.heap.size, 0, none⟩) (n + m) G) → Rowed g w W3 e (xs.take i ++ vs.take m ++ (xs.take n).drop i) := fun e he => by
    have hL : (xs.take i ++ vs.take m ++ (xs.take n).drop i).length = n + m := by simp; omega
    have hl3 := spl_length _ (i + m) ((xs.drop i).take (n - i)) (show i + m + ((xs.drop i).take (n - i)).length ≤ (spl (xs.take i ++ List.replicate (n + m - i) ((0, 0) : Rg) ++ List.replicate (G - (n + m)) ((0, 0) : Rg)) i (vs.take m)).length by rw [hl2]; simp; omega)
    rw [hl2] at hl3
    exact Rowed.mk _ _ he hL.symm hl3.symm (by rw [hl3]; exact hG2) (by omega) (by rw [hL]; exact grow_list xs vs n m i _ (by omega) (by omega) hml) hR3 hF3 (.inr (Nat.le_refl _))
  have FIN : Hid _ := hfin
  unfold maxLen at hG2
  have hGi : ¬ (G = i) := by omega
  have hGim : ¬ (G = i + m) := by omega
  have hci : ¬ (c = i) := by omega
  have hw1 : IntKind.i64.wrap ((i : Int) + (m : Int)) = (i : Int) + (m : Int) := by rw [IntKind.wrap_i64]; omega
  have hb1 : (0 : Int) ≤ (i : Int) + (m : Int) := by omega
  have hin : i ≤ n := by omega
  have htn : ((i : Int) + (m : Int)).toNat = i + m := by omega
  have hb3 : (i : Int) ≤ (n : Int) := by omega
  clear hfin hR1 hF1 hX1 hV1 hl1 hR2 hF2 hX2 hl2 hR3 hF3 hK2 hK3
  go_enter Try.func62, Try.ntmps62
  go_wp2_with (first
    | (at_builtin; refine Lib.wpList_append_run _ rfl _ _ _ _ rfl _ _ rfl rfl _ _ (hap _) ?_)
    | (at_builtin; refine wpList_copy_run _ rfl _ _ rfl _ _ rfl rfl (hcp2 _ _ _) ?_))
  go_region_law (refine step_copy_run rfl _ _ rfl (.slice (some ⟨w.heap.size, (i + m) * 2, none⟩) (n + m - (i + m)) (G - (i + m))) (.slice (some ⟨g, i * 2, none⟩) (n - i) (c - i)) (by simp [Act.eval, Act.put]) (by simp [Act.eval, Act.put]) (hcp3 _ _ _) ?_)
  go_wp2
  go_ret
  exact FIN.out _ rfl
end Go.Proofs.Ytegabbfdnpjkkaa
