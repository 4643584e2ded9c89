import Derived.Test.YtegabbfdnpjkkaaRanG
namespace Go.Proofs.Ytegabbfdnpjkkaa
open Go.RowKit
set_option linter.unusedVariables false

set_option maxHeartbeats 4000000 in
set_option maxRecDepth 100000 in
theorem rep_mid_fit (g n c i j gv m cv : Nat) (xs vs : List Rg) (w : World) (h : RowB g xs w) (hv : RowB gv vs w) (hne : gv ≠ g) (hi : i < j) (hj : j < n) (hm : 0 < m) (him : i + m ≤ j) (hnc : n ≤ c) (hc : xs.length = c) (hc63 : c ≤ maxLen) (hml : m ≤ vs.length) :
    Calls Try.prog 51 #[.slice (some ⟨g, 0, none⟩) n c, .int .i64 i, .int .i64 j, .slice (some ⟨gv, 0, none⟩) m cv] w fun e w' => Rowed g w w' e (xs.take i ++ vs.take m ++ (xs.take n).drop j) := by
  unfold maxLen at hc63
  have l2 : (vs.take m).length = m := by simp; omega
  have hz1 : ¬ ((i : Int) = (j : Int)) := by omega
  have hz2 : ¬ ((j : Int) = (n : Int)) := by omega
  have hij : (i : Int) ≤ (j : Int) := by omega
  have hjn : (j : Int) ≤ (n : Int) := by omega
  have hnc' : (n : Int) ≤ (c : Int) := by omega
  have hcj : ¬ (c = j) := by omega
  have hci : ¬ (c = i) := by omega
  have hcim : ¬ (c = i + m) := by omega
  have hw1 : IntKind.i64.wrap ((i : Int) + (m : Int)) = (i : Int) + (m : Int) := by rw [IntKind.wrap_i64]; omega
  have hb1 : (0 : Int) ≤ (i : Int) + (m : Int) := by omega
  have htn : ((i : Int) + (m : Int)).toNat = i + m := by omega
  have hle : (i : Int) + (m : Int) ≤ (i : Int) + (m : Int) + ((n - j : Nat) : Int) := by omega
  obtain ⟨L, hL⟩ : ∃ L, L = xs.take i ++ vs.take m ++ (xs.take n).drop j := ⟨_, rfl⟩
  have HL : Hid _ := hL
  rw [← hL]
  clear hL
  go_enter Try.func51, Try.ntmps51
  go_wp2_with fail
  go_quiet (fail)
  obtain ⟨W1, hcp1, hR1, hF1, hK1⟩ := copy_step w (w.drewN nq) g i (i + m + (n - j) - i) gv 0 m m xs vs h hv (by simp only [Nat.min_def]; split <;> omega) (by omega) (by omega) (fun k => k = g) (.inl rfl) ((Fr.refl _ _).drewN nq)
  rw [List.drop_zero] at hR1
  have hl1 := spl_length xs i (vs.take m) (by omega)
  obtain ⟨W2, hcp2, hR2, hF2, hK2⟩ := copy_step w W1.drew g (i + m) (n - j) g j (n - j) (n - j) _ _ hR1 hR1 (by simp only [Nat.min_def]; split <;> omega) (by omega) (by omega) (fun k => k = g) (.inl rfl) hF1.drew
  have l4 : (((spl xs i (vs.take m)).drop j).take (n - j)).length = n - j := by simp [hl1]; omega
  have hl2 := spl_length (spl xs i (vs.take m)) (i + m) (((spl xs i (vs.take m)).drop j).take (n - j)) (by rw [l4, hl1]; omega)
  have hget := fit_get xs (vs.take m) n m i j l2 him (by omega) (by omega)
  by_cases htot : i + m < j
  · obtain ⟨W3, hcl, hR3, hF3⟩ := clear_step w W2 g (i + m + (n - j)) (n - (i + m + (n - j))) _ hR2 (by rw [hl2, hl1]; omega) (by omega) (fun k => k = g) (.inl rfl) hF2
    have hl3 := spl_length (spl (spl xs i (vs.take m)) (i + m) (((spl xs i (vs.take m)).drop j).take (n - j))) (i + m + (n - j)) (List.replicate (n - (i + m + (n - j))) ((0, 0) : Rg)) (by rw [hl2, hl1]; simp; omega)
    have hfin : ∀ e : Ending, e = .returned (.slice (some ⟨g, 0, none⟩) (i + m + (n - j)) c) → Rowed g w W3 e L := fun e he => by
      rw [HL.out]
      have hLl := midL_length xs (vs.take m) n m i j l2 (by omega) (by omega) (by omega)
      refine Rowed.mk _ _ he hLl.symm (by rw [hl3, hl2, hl1, hc]) (by rw [hl3, hl2, hl1, hc]; exact hc63) (by rw [hl3, hl2, hl1, hLl]; omega) ?_ hR3 hF3 (.inl rfl)
      rw [hLl]
      refine mid_list xs _ (vs.take m) n m i j l2 (by omega) (by omega) (by omega) fun k hk => ?_
      rw [get_spl _ _ _ (by rw [hl2, hl1]; simp; omega), if_pos hk]
      exact hget k hk
    have FIN : Hid _ := hfin
    have hct : ¬ (c = i + m + (n - j)) := by omega
    have htl : (i : Int) + (m : Int) + ((n - j : Nat) : Int) ≤ (n : Int) := by omega
    have htt : ((i : Int) + (m : Int) + ((n - j : Nat) : Int)).toNat = i + m + (n - j) := by omega
    clear hfin hR1 hF1 hK1 hl1 hR2 hF2 hK2 l4 hl2 hget hR3 hF3 hl3
    go_wp2_with (at_builtin; refine wpList_copy_run _ rfl _ _ rfl _ _ rfl rfl (hcp1 _ _ _) ?_)
    go_region_law (refine step_copy_run rfl _ _ rfl (.slice (some ⟨g, (i + m) * 2, none⟩) (n - j) (c - (i + m))) (.slice (some ⟨g, j * 2, none⟩) (n - j) (c - j)) (by simp [Act.eval, Act.put]) (by simp [Act.eval, Act.put]) (hcp2 _ _ _) ?_)
    go_wp2_with (at_builtin; refine wpList_clear_run _ rfl _ rfl _ rfl (hcl _ _) ?_)
    go_ret
    exact FIN.out _ rfl
  · have hfin : ∀ e : Ending, e = .returned (.slice (some ⟨g, 0, none⟩) (i + m + (n - j)) c) → Rowed g w W2 e L := fun e he => by
      rw [HL.out]
      have hLl := midL_length xs (vs.take m) n m i j l2 (by omega) (by omega) (by omega)
      refine Rowed.mk _ _ he hLl.symm (by rw [hl2, hl1, hc]) (by rw [hl2, hl1, hc]; exact hc63) (by rw [hl2, hl1, hLl]; omega) ?_ hR2 hF2 (.inl rfl)
      rw [hLl]
      exact mid_list xs _ (vs.take m) n m i j l2 (by omega) (by omega) (by omega) hget
    have FIN2 : Hid (∀ e : Ending, c = i + m + (n - j) → e = .returned (.slice (some ⟨g, 0, none⟩) (i + m + (n - j)) (i + m + (n - j))) → Rowed g w W2 e L) := fun e hc2 he => hfin e (by rw [he]; rw [← hc2])
    have FIN : Hid _ := hfin
    have htl : (i : Int) + (m : Int) + ((n - j : Nat) : Int) ≤ (n : Int) := by omega
    have htt : ((i : Int) + (m : Int) + ((n - j : Nat) : Int)).toNat = i + m + (n - j) := by omega
    have hk0 : n - (i + m + (n - j)) = 0 := by omega
    have HK : Hid _ := hk0
    clear hfin hR1 hF1 hK1 hl1 hR2 hF2 hK2 l4 hl2 hget hk0
    have hclz : ∀ (W : World) (b : Option Addr) (c : Nat), (Builtin.clear_ #[45] 0 #[.slice b (n - (i + m + (n - j))) c]).run Try.prog W = .ok (.tuple #[]) W := fun W b c => clear_zero' W 0 b _ c HK.out
    go_wp2_with (at_builtin; refine wpList_copy_run _ rfl _ _ rfl _ _ rfl rfl (hcp1 _ _ _) ?_)
    go_region_law (refine step_copy_run rfl _ _ rfl (.slice (some ⟨g, (i + m) * 2, none⟩) (n - j) (c - (i + m))) (.slice (some ⟨g, j * 2, none⟩) (n - j) (c - j)) (by simp [Act.eval, Act.put]) (by simp [Act.eval, Act.put]) (hcp2 _ _ _) ?_)
    go_wp2
    all_goals go_ret
    all_goals first | exact FIN.out _ rfl | exact FIN2.out _ (by assumption) rfl
end Go.Proofs.Ytegabbfdnpjkkaa
