import Derived.Test.YtegabbfdnpjkkaaRanG
namespace Go.Proofs.Ytegabbfdnpjkkaa
open Go.RowKit
set_option linter.unusedVariables false

theorem exp_get (xs V : List Rg) (n m i j : Nat) (l2 : V.length = m) (him : j < i + m) (hi : i < j) (hj : j < n) (hn : i + m + (n - j) ≤ xs.length) (k : Nat) (hk : k < i + m + (n - j)) :
    (spl (spl xs (i + m) ((xs.drop j).take (n - j))) i V)[k]? = if k < i then xs[k]? else if k < i + m then V[k - i]? else xs[j + (k - (i + m))]? := by
  have l4 : ((xs.drop j).take (n - j)).length = n - j := by simp; omega
  have hl1 := spl_length xs (i + m) ((xs.drop j).take (n - j)) (by omega)
  rw [get_spl _ _ _ (by omega), l2]
  by_cases h1 : k < i
  · simp only [h1, if_true]
    rw [get_spl _ _ _ (by omega), if_pos (by omega)]
  · by_cases h2 : k < i + m
    · simp only [h1, if_false, if_pos h2]
    · simp only [h1, h2, if_false]
      rw [get_spl _ _ _ (by omega), if_neg (by omega), l4, if_pos hk, List.getElem?_take, if_pos (by omega), List.getElem?_drop]

set_option maxHeartbeats 4000000 in
set_option maxRecDepth 100000 in
theorem rep_mid_exp (g n c i j gv m cv : Nat) (xs vs : List Rg) (w : World) (h : RowB g xs w) (hv : RowB gv vs w) (hne : gv ≠ g) (hi : i < j) (hj : j < n) (hm : 0 < m) (him : j < i + m) (htot : i + m + (n - j) ≤ c) (hnc : n ≤ c) (hc : xs.length = c) (hc63 : c ≤ maxLen) (hml : m ≤ vs.length) :
    Calls Try.prog 51 #[.slice (some ⟨g, 0, none⟩) n c, .int .i64 i, .int .i64 j, .slice (some ⟨gv, 0, none⟩) m cv] w fun e w' => Rowed g w w' e (xs.take i ++ vs.take m ++ (xs.take n).drop j) := by
  unfold maxLen at hc63
  have l2 : (vs.take m).length = m := by simp; omega
  have hgw := h.lt
  have hz1 : ¬ ((i : Int) = (j : Int)) := by omega
  have hz2 : ¬ ((j : Int) = (n : Int)) := by omega
  have hij : (i : Int) ≤ (j : Int) := by omega
  have hjn : (j : Int) ≤ (n : Int) := by omega
  have hnc' : (n : Int) ≤ (c : Int) := by omega
  have hcj : ¬ (c = j) := by omega
  have hci : ¬ (c = i) := by omega
  have hw1 : IntKind.i64.wrap ((i : Int) + (m : Int)) = (i : Int) + (m : Int) := by rw [IntKind.wrap_i64]; omega
  have hb1 : (0 : Int) ≤ (i : Int) + (m : Int) := by omega
  have htn : ((i : Int) + (m : Int)).toNat = i + m := by omega
  have hle : (i : Int) + (m : Int) ≤ (i : Int) + (m : Int) + ((n - j : Nat) : Int) := by omega
  obtain ⟨L, hL⟩ : ∃ L, L = xs.take i ++ vs.take m ++ (xs.take n).drop j := ⟨_, rfl⟩
  have HL : Hid _ := hL
  rw [← hL]
  clear hL
  have hcim : ¬ (c = i + m) := by omega
  have htc : (i : Int) + (m : Int) + ((n - j : Nat) : Int) ≤ (c : Int) := by omega
  have hov : ∀ nq lb cb, (callFunc 63 #[.slice (some ⟨g, (i + m) * 2, none⟩) lb cb, .slice (some ⟨gv, 0, none⟩) m cv]).run Try.prog (w.drewN nq) = .ok (.value (.bool false)) (w.drewN nq) := fun nq lb cb => over_pairs (w.drewN nq) g _ lb cb gv 0 m cv xs vs h hv (fun e => hne e.symm) (by intro e; subst e; simp at hml; omega)
  go_enter Try.func51, Try.ntmps51
  go_wp2_with fail
  go_quiet (fail)
  obtain ⟨W1, hcp1, hR1, hF1, hK1⟩ := copy_step w (w.drewN nq).drew g (i + m) (n - j) g j (n - j) (n - j) xs xs h h (by simp only [Nat.min_def]; split <;> omega) (by omega) (by omega) (fun k => k = g) (.inl rfl) ((Fr.refl _ _).drewN nq).drew
  have hV1 := hK1 gv vs hne hv
  have l4 : ((xs.drop j).take (n - j)).length = n - j := by simp; omega
  have hl1 := spl_length xs (i + m) ((xs.drop j).take (n - j)) (by omega)
  obtain ⟨W2, hcp2, hR2, hF2, hK2⟩ := copy_step w W1 g i (i + m + (n - j) - i) gv 0 m m _ vs hR1 hV1 (by simp only [Nat.min_def]; split <;> omega) (by omega) (by omega) (fun k => k = g) (.inl rfl) hF1
  rw [List.drop_zero] at hR2
  have hl2 := spl_length (spl xs (i + m) ((xs.drop j).take (n - j))) i (vs.take m) (by omega)
  have hfin : ∀ e : Ending, e = .returned (.slice (some ⟨g, 0, none⟩) (i + m + (n - j)) c) → Rowed g w W2 e L := fun e he => by
    rw [HL.out]
    have hLl := midL_length xs (vs.take m) n m i j l2 (by omega) (by omega) (by omega)
    refine Rowed.mk _ _ he hLl.symm (by rw [hl2, hl1, hc]) (by rw [hl2, hl1, hc]; exact hc63) (by rw [hl2, hl1, hLl]; omega) ?_ hR2 hF2 (.inl rfl)
    rw [hLl]
    exact mid_list xs _ (vs.take m) n m i j l2 (by omega) (by omega) (by omega) (exp_get xs (vs.take m) n m i j l2 him hi hj (by omega))
  have FIN : Hid _ := hfin
  clear hfin hR1 hF1 hK1 hl1 hR2 hF2 hK2 l4 hl2 hV1
  go_wp2_with (simp only [hov])
  go_region_law (refine step_copy_run rfl _ _ rfl (.slice (some ⟨g, (i + m) * 2, none⟩) (n - j) (c - (i + m))) (.slice (some ⟨g, j * 2, none⟩) (n - j) (c - j)) (by simp [Act.eval, Act.put]) (by simp [Act.eval, Act.put]) (hcp1 _ _ _) ?_)
  go_wp2_with (at_builtin; refine wpList_copy_run _ rfl _ _ rfl _ _ rfl rfl (hcp2 _ _ _) ?_)
  go_ret
  exact FIN.out _ rfl
end Go.Proofs.Ytegabbfdnpjkkaa
