import Derived.Test.YtegabbfdnpjkkaaRanG
namespace Go.Proofs.Ytegabbfdnpjkkaa
open Go.RowKit
set_option linter.unusedVariables false

theorem grow_get (xs V : List Rg) (n m i j k0 : Nat) (l2 : V.length = m) (hi : i < j) (hj : j < n) (hn : n ≤ xs.length) (k : Nat) (hk : k < i + m + (n - j)) :
    (spl (spl (xs.take i ++ List.replicate (m + (n - j)) ((0, 0) : Rg) ++ List.replicate k0 ((0, 0) : Rg)) i V) (i + m) ((xs.drop j).take (n - j)))[k]? = if k < i then xs[k]? else if k < i + m then V[k - i]? else xs[j + (k - (i + m))]? := by
  have l4 : ((xs.drop j).take (n - j)).length = n - j := by simp; omega
  have l3 : (xs.take i).length = i := by simp; omega
  have l5 : (xs.take i ++ List.replicate (m + (n - j)) ((0, 0) : Rg) ++ List.replicate k0 ((0, 0) : Rg)).length = i + m + (n - j) + k0 := by simp; omega
  have hl1 := spl_length (xs.take i ++ List.replicate (m + (n - j)) ((0, 0) : Rg) ++ List.replicate k0 ((0, 0) : Rg)) i V (by omega)
  rw [get_spl _ _ _ (by omega), l4]
  by_cases h2 : k < i + m
  · rw [if_pos h2, get_spl _ _ _ (by omega), l2]
    by_cases h1 : k < i
    · rw [if_pos h1, if_pos h1, List.append_assoc, List.getElem?_append, l3, if_pos h1, List.getElem?_take, if_pos h1]
    · rw [if_neg h1, if_neg h1, if_pos h2, if_pos h2]
  · rw [if_neg h2, if_pos hk, if_neg (by omega), if_neg h2, List.getElem?_take, if_pos (by omega), List.getElem?_drop]

set_option maxHeartbeats 4000000 in
set_option maxRecDepth 100000 in
theorem rep_mid_grow (g n c i j gv m cv : Nat) (xs vs : List Rg) (w : World) (h : RowB g xs w) (hv : RowB gv vs w) (hne : gv ≠ g) (hi : i < j) (hj : j < n) (hm : 0 < m) (htot : c < i + m + (n - j)) (hnc : n ≤ c) (hc : xs.length = c) (hc63 : c ≤ maxLen) (hml : m ≤ vs.length) (hbig : (i + m + (n - j)) * 16 ≤ 140737488355328) :
    Calls Try.prog 51 #[.slice (some ⟨g, 0, none⟩) n c, .int .i64 i, .int .i64 j, .slice (some ⟨gv, 0, none⟩) m cv] w fun e w' => Rowed g w w' e (xs.take i ++ vs.take m ++ (xs.take n).drop j) := by
  unfold maxLen at hc63
  have l2 : (vs.take m).length = m := by simp; omega
  have hgw := h.lt
  have hz1 : ¬ ((i : Int) = (j : Int)) := by omega
  have hz2 : ¬ ((j : Int) = (n : Int)) := by omega
  have hij : (i : Int) ≤ (j : Int) := by omega
  have hjn : (j : Int) ≤ (n : Int) := by omega
  have hnc' : (n : Int) ≤ (c : Int) := by omega
  have hcj : ¬ (c = j) := by omega
  have hci : ¬ (c = i) := by omega
  have hw1 : IntKind.i64.wrap ((i : Int) + (m : Int)) = (i : Int) + (m : Int) := by rw [IntKind.wrap_i64]; omega
  have hb1 : (0 : Int) ≤ (i : Int) + (m : Int) := by omega
  have htn : ((i : Int) + (m : Int)).toNat = i + m := by omega
  have hle : (i : Int) + (m : Int) ≤ (i : Int) + (m : Int) + ((n - j : Nat) : Int) := by omega
  obtain ⟨L, hL⟩ : ∃ L, L = xs.take i ++ vs.take m ++ (xs.take n).drop j := ⟨_, rfl⟩
  have HL : Hid _ := hL
  rw [← hL]
  clear hL
  have htc : (c : Int) < (i : Int) + (m : Int) + ((n - j : Nat) : Int) := by omega
  have hti : (i : Int) ≤ (i : Int) + (m : Int) + ((n - j : Nat) : Int) := by omega
  go_enter Try.func51, Try.ntmps51
  go_wp2_with fail
  go_quiet (fail)
  have hap : ∃ W G, (∀ ty, (Builtin.append_ #[45, 3] ty #[.slice (some ⟨g, 0, none⟩) i c, .int .i64 ((i : Int) + (m : Int) + ((n - j : Nat) : Int) - (i : Int))]).run Try.prog (w.drewN nq) = .ok (.slice (some ⟨w.heap.size, 0, none⟩) (i + m + (n - j)) G) W) ∧ i + m + (n - j) ≤ G ∧ G ≤ maxLen ∧
      RowB w.heap.size (xs.take i ++ List.replicate (m + (n - j)) ((0, 0) : Rg) ++ List.replicate (G - (i + m + (n - j))) (0, 0)) W ∧ Fr (fun k => k = g) w W ∧ RowB g xs W ∧ RowB gv vs W :=
    ⟨_, _, fun ty => by
      have := app_zeros (w.drewN nq) ty g i c (m + (n - j)) xs h (by omega) (by omega) (by omega) (by omega)
      rw [show i + (m + (n - j)) = i + m + (n - j) by omega] at this
      rw [show (i : Int) + (m : Int) + ((n - j : Nat) : Int) - (i : Int) = ((m + (n - j) : Nat) : Int) by omega]
      exact this, grownCap_ge _ _ _ _, grownCap_le_maxLen _ _ _ _ (by unfold maxLen; omega), RowB.new (w.drewN nq).drew _, ((Fr.refl _ _).drewN nq).drew.alloc _, RowB.alloc (w := (w.drewN nq).drew) h _, RowB.alloc (w := (w.drewN nq).drew) hv _⟩
  obtain ⟨W1, G, hap, hG1, hG2, hR1, hF1, hX1, hV1⟩ := hap
  have hl1 : (xs.take i ++ List.replicate (m + (n - j)) ((0, 0) : Rg) ++ List.replicate (G - (i + m + (n - j))) ((0, 0) : Rg)).length = G := by simp; omega
  obtain ⟨W2, hcp2, hR2, hF2, hK2⟩ := copy_step w W1 w.heap.size i (i + m + (n - j) - i) gv 0 m m _ vs hR1 hV1 (by simp only [Nat.min_def]; split <;> omega) (by omega) (by omega) (fun k => k = g) (.inr (Nat.le_refl _)) hF1
  rw [List.drop_zero] at hR2
  have hX2 := hK2 g xs (by omega) hX1
  have hl2 := spl_length (xs.take i ++ List.replicate (m + (n - j)) ((0, 0) : Rg) ++ List.replicate (G - (i + m + (n - j))) ((0, 0) : Rg)) i (vs.take m) (by omega)
  have l4 : ((xs.drop j).take (n - j)).length = n - j := by simp; omega
  obtain ⟨W3, hcp3, hR3, hF3, hK3⟩ := copy_step w W2.drew w.heap.size (i + m) (n - j) g j (n - j) (n - j) _ xs hR2 hX2 (by simp only [Nat.min_def]; split <;> omega) (by omega) (by omega) (fun k => k = g) (.inr (Nat.le_refl _)) hF2.drew
  have hl3 := spl_length (spl (xs.take i ++ List.replicate (m + (n - j)) ((0, 0) : Rg) ++ List.replicate (G - (i + m + (n - j))) ((0, 0) : Rg)) i (vs.take m)) (i + m) ((xs.drop j).take (n - j)) (by omega)
  have hfin : ∀ e : Ending, e = .returned (.slice (some ⟨w.heap.size, 0, none⟩) (i + m + (n - j)) G) → Rowed g w W3 e L := fun e he => by
    rw [HL.out]
    have hLl := midL_length xs (vs.take m) n m i j l2 (by omega) (by omega) (by omega)
    refine Rowed.mk _ _ he hLl.symm (by omega) (by rw [hl3, hl2, hl1]; exact hG2) (by rw [hl3, hl2, hl1, hLl]; omega) ?_ hR3 hF3 (.inr (Nat.le_refl _))
    rw [hLl]
    exact mid_list xs _ (vs.take m) n m i j l2 (by omega) (by omega) (by omega) (grow_get xs (vs.take m) n m i j _ l2 hi hj (by omega))
  have FIN : Hid _ := hfin
  unfold maxLen at hG2
  have hGi : ¬ (G = i) := by omega
  have hGim : ¬ (G = i + m) := by omega
  clear hfin hR1 hF1 hX1 hV1 hl1 hR2 hF2 hX2 hl2 hR3 hF3 hK2 hK3 hl3 l4
  go_wp2_with (first
    | (at_builtin; refine Lib.wpList_append_run _ rfl _ _ _ _ rfl _ _ rfl rfl _ _ (hap _) ?_)
    | (at_builtin; refine wpList_copy_run _ rfl _ _ rfl _ _ rfl rfl (hcp2 _ _ _) ?_))
  go_region_law (refine step_copy_run rfl _ _ rfl (.slice (some ⟨w.heap.size, (i + m) * 2, none⟩) (n - j) (G - (i + m))) (.slice (some ⟨g, j * 2, none⟩) (n - j) (c - j)) (by simp [Act.eval, Act.put]) (by simp [Act.eval, Act.put]) (hcp3 _ _ _) ?_)
  go_wp2
  go_ret
  exact FIN.out _ rfl
end Go.Proofs.Ytegabbfdnpjkkaa
