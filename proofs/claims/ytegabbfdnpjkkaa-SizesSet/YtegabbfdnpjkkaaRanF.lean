import Derived.Test.YtegabbfdnpjkkaaRanE
namespace Go.Proofs.Ytegabbfdnpjkkaa
open Go.RowKit
set_option linter.unusedVariables false

set_option maxHeartbeats 2000000 in
set_option maxRecDepth 100000 in
theorem rep_same0 (g n c i : Nat) (w : World) (hi : i ≤ n) (hn : n ≤ c) (hc : c ≤ maxLen) :
    Calls Try.prog 51 #[.slice (some ⟨g, 0, none⟩) n c, .int .i64 i, .int .i64 i, .slice none 0 0] w fun e w' => e = .returned (.slice (some ⟨g, 0, none⟩) n c) ∧ w' = w := by
  have hins := insert_zero g n c i w hi hn hc
  unfold maxLen at hc
  go_enter Try.func51, Try.ntmps51
  go_wp2_with (go_at_call 62; refine hins.mono ?_; rintro e w' ⟨rfl, rfl⟩)
  all_goals
    go_ret
    exact ⟨rfl, rfl⟩
set_option maxHeartbeats 2000000 in
set_option maxRecDepth 100000 in
theorem rep_nil0 (w : World) :
    Calls Try.prog 51 #[.slice none 0 0, .int .i64 0, .int .i64 0, .slice none 0 0] w fun e w' => e = .returned (.slice none 0 0) ∧ w' = w := by
  have hins := insert_nil_zero w
  go_enter Try.func51, Try.ntmps51
  go_wp2_with (go_at_call 62; refine hins.mono ?_; rintro e w' ⟨rfl, rfl⟩)
  all_goals
    go_ret
    exact ⟨rfl, rfl⟩
set_option maxHeartbeats 2000000 in
set_option maxRecDepth 100000 in
theorem rep_nil (gv m cv : Nat) (vs : List Rg) (w : World) (hv : RowB gv vs w) (hm : 0 < m) (hml : m ≤ vs.length) (hbig : m * 16 ≤ 140737488355328) :
    Calls Try.prog 51 #[.slice none 0 0, .int .i64 0, .int .i64 0, .slice (some ⟨gv, 0, none⟩) m cv] w fun e w' => Rowed w.heap.size w w' e (vs.take m) := by
  have hins := insert_nil gv m cv vs w hv hm hml hbig
  generalize vs.take m = L at hins ⊢
  go_enter Try.func51, Try.ntmps51
  go_wp2_with (go_at_call 62; refine hins.mono ?_; rintro e w' ⟨g', xs', rfl, r1, r2, r3, r4, r5, r6⟩)
  all_goals
    go_ret
    exact ⟨g', xs', rfl, r1, r2, r3, r4, r5, r6⟩

/-! i < j = n -/
theorem tail_list (xs V : List Rg) (n i : Nat) (zs : List Rg) (hl : n ≤ xs.length) (hi : i + V.length ≤ xs.length) (hz : i + V.length + zs.length ≤ xs.length) :
    (spl (spl xs i V) (i + V.length) zs).take (i + V.length) = xs.take i ++ V := by
  have l3 : (xs.take i).length = i := by simp; omega
  apply List.ext_getElem?
  intro k
  rw [List.getElem?_take, get_spl _ _ _ (by rw [spl_length _ _ _ hi]; omega), get_spl _ _ _ hi, List.getElem?_append, l3]
  simp only [List.getElem?_take]
  by_cases h1 : k < i
  · simp only [h1, if_true, if_pos (show k < i + V.length by omega)]
  · by_cases h2 : k < i + V.length
    · simp only [h1, if_false, if_pos h2]
    · simp only [h1, if_false, if_neg h2]
      rw [List.getElem?_eq_none (by omega)]
theorem tail_list0 (xs V : List Rg) (i : Nat) (hi : i + V.length ≤ xs.length) : (spl xs i V).take (i + V.length) = xs.take i ++ V := by
  unfold spl
  rw [List.take_append_of_le_length (by simp; omega), List.take_of_length_le (by simp; omega)]

set_option maxHeartbeats 2000000 in
set_option maxRecDepth 100000 in
theorem rep_tail0 (g n c i : Nat) (xs : List Rg) (w : World) (h : RowB g xs w) (hi : i < n) (hnc : n ≤ c) (hc : xs.length = c) (hc63 : c ≤ maxLen) :
    Calls Try.prog 51 #[.slice (some ⟨g, 0, none⟩) n c, .int .i64 i, .int .i64 n, .slice none 0 0] w fun e w' => Rowed g w w' e (xs.take i) := by
  have hap := fun ty => app_none w ty (some ⟨g, 0, none⟩) i c (by omega)
  obtain ⟨W2, hcl, hR2, hF2⟩ := clear_step w w g i (n - i) xs h (by omega) (by omega) (fun k => k = g) (.inl rfl) (Fr.refl _ _)
  have hfin : ∀ e : Ending, e = .returned (.slice (some ⟨g, 0, none⟩) i c) → Rowed g w W2 e (xs.take i) := fun e he => by
    have hL : (xs.take i).length = i := by simp; omega
    have hl2 := spl_length xs i (List.replicate (n - i) ((0, 0) : Rg)) (by simp; omega)
    have ht : (spl xs i (List.replicate (n - i) ((0, 0) : Rg))).take i = xs.take i := by
      unfold spl; rw [List.append_assoc, List.take_append_of_le_length (by omega), List.take_of_length_le (by omega)]
    exact Rowed.mk _ _ he hL.symm (by rw [hl2, hc]) (by rw [hl2, hc]; exact hc63) (by rw [hl2, hL]; omega) (by rw [hL]; exact ht) hR2 hF2 (.inl rfl)
  generalize xs.take i = L at hfin ⊢
  have FIN : Hid _ := hfin
  have hz2 : ¬ ((i : Int) = (n : Int)) := by omega
  have hin : (i : Int) < (n : Int) := by omega
  have hci : ¬ (c = i) := by omega
  unfold maxLen at hc63
  clear hfin hR2 hF2
  go_enter Try.func51, Try.ntmps51
  go_wp2_with (first
    | (at_builtin; refine Lib.wpList_append_run _ rfl _ _ _ _ rfl _ _ rfl rfl _ _ (hap _) ?_)
    | (at_builtin; refine wpList_clear_run _ rfl _ rfl _ rfl (hcl _ _) ?_))
  all_goals
    go_ret
    exact FIN.out _ rfl

set_option maxHeartbeats 2000000 in
set_option maxRecDepth 100000 in
theorem rep_tail_clear (g n c i gv m cv : Nat) (xs vs : List Rg) (w : World) (h : RowB g xs w) (hv : RowB gv vs w) (hne : gv ≠ g) (hi : i < n) (hm : 0 < m) (him : i + m < n) (hnc : n ≤ c) (hc : xs.length = c) (hc63 : c ≤ maxLen) (hml : m ≤ vs.length) :
    Calls Try.prog 51 #[.slice (some ⟨g, 0, none⟩) n c, .int .i64 i, .int .i64 n, .slice (some ⟨gv, 0, none⟩) m cv] w fun e w' => Rowed g w w' e (xs.take i ++ vs.take m) := by
  have l2 : (vs.take m).length = m := by simp; omega
  have hap : ∃ W, (∀ ty, (Builtin.append_ #[45, 45] ty #[.slice (some ⟨g, 0, none⟩) i c, .slice (some ⟨gv, 0, none⟩) m cv]).run Try.prog w = .ok (.slice (some ⟨g, 0, none⟩) (i + m) c) W) ∧ RowB g (spl xs i (vs.take m)) W ∧ Fr (fun k => k = g) w W :=
    ⟨_, fun ty => by
      have := app_room w ty g 0 i c gv 0 m cv xs vs h hv (by omega) (by omega) (by omega)
      simp only [Nat.zero_mul, Nat.zero_add, List.drop_zero] at this
      exact this, h.setRow _, (Fr.refl _ _).setRow g _ (.inl rfl)⟩
  obtain ⟨W, hap, hR, hF⟩ := hap
  have hl1 := spl_length xs i (vs.take m) (by omega)
  obtain ⟨W2, hcl, hR2, hF2⟩ := clear_step w W g (i + m) (n - (i + m)) _ hR (by omega) (by omega) (fun k => k = g) (.inl rfl) hF
  have hfin : ∀ e : Ending, e = .returned (.slice (some ⟨g, 0, none⟩) (i + m) c) → Rowed g w W2 e (xs.take i ++ vs.take m) := fun e he => by
    have hL : (xs.take i ++ vs.take m).length = i + m := by simp; omega
    have hl2 := spl_length (spl xs i (vs.take m)) (i + m) (List.replicate (n - (i + m)) ((0, 0) : Rg)) (by rw [hl1]; simp; omega)
    have ht := tail_list xs (vs.take m) n i (List.replicate (n - (i + m)) ((0, 0) : Rg)) (by omega) (by omega) (by simp; omega)
    rw [l2] at ht
    exact Rowed.mk _ _ he hL.symm (by rw [hl2, hl1, hc]) (by rw [hl2, hl1, hc]; exact hc63) (by rw [hl2, hl1, hL]; omega) (by rw [hL]; exact ht) hR2 hF2 (.inl rfl)
  generalize xs.take i ++ vs.take m = L at hfin ⊢
  have FIN : Hid _ := hfin
  have hz2 : ¬ ((i : Int) = (n : Int)) := by omega
  have hin : (i : Int) < (n : Int) := by omega
  have him' : (i : Int) + (m : Int) < (n : Int) := by omega
  have hci : ¬ (c = i + m) := by omega
  unfold maxLen at hc63
  clear hfin hR2 hF2 hR hF hl1 l2
  go_enter Try.func51, Try.ntmps51
  go_wp2_with (first
    | (at_builtin; refine Lib.wpList_append_run _ rfl _ _ _ _ rfl _ _ rfl rfl _ _ (hap _) ?_)
    | (at_builtin; refine wpList_clear_run _ rfl _ rfl _ rfl (hcl _ _) ?_))
  all_goals
    go_ret
    exact FIN.out _ rfl

set_option maxHeartbeats 2000000 in
set_option maxRecDepth 100000 in
theorem rep_tail_room (g n c i gv m cv : Nat) (xs vs : List Rg) (w : World) (h : RowB g xs w) (hv : RowB gv vs w) (hne : gv ≠ g) (hi : i < n) (hm : 0 < m) (him : n ≤ i + m) (hroom : i + m ≤ c) (hc : xs.length = c) (hc63 : c ≤ maxLen) (hml : m ≤ vs.length) :
    Calls Try.prog 51 #[.slice (some ⟨g, 0, none⟩) n c, .int .i64 i, .int .i64 n, .slice (some ⟨gv, 0, none⟩) m cv] w fun e w' => Rowed g w w' e (xs.take i ++ vs.take m) := by
  have l2 : (vs.take m).length = m := by simp; omega
  have hap : ∃ W, (∀ ty, (Builtin.append_ #[45, 45] ty #[.slice (some ⟨g, 0, none⟩) i c, .slice (some ⟨gv, 0, none⟩) m cv]).run Try.prog w = .ok (.slice (some ⟨g, 0, none⟩) (i + m) c) W) ∧ RowB g (spl xs i (vs.take m)) W ∧ Fr (fun k => k = g) w W :=
    ⟨_, fun ty => by
      have := app_room w ty g 0 i c gv 0 m cv xs vs h hv (by omega) (by omega) (by omega)
      simp only [Nat.zero_mul, Nat.zero_add, List.drop_zero] at this
      exact this, h.setRow _, (Fr.refl _ _).setRow g _ (.inl rfl)⟩
  obtain ⟨W, hap, hR, hF⟩ := hap
  have hl1 := spl_length xs i (vs.take m) (by omega)
  have hfin : ∀ e : Ending, e = .returned (.slice (some ⟨g, 0, none⟩) (i + m) c) → Rowed g w W e (xs.take i ++ vs.take m) := fun e he => by
    have hL : (xs.take i ++ vs.take m).length = i + m := by simp; omega
    have ht := tail_list0 xs (vs.take m) i (by omega)
    rw [l2] at ht
    exact Rowed.mk _ _ he hL.symm (by rw [hl1, hc]) (by rw [hl1, hc]; exact hc63) (by rw [hl1, hL]; omega) (by rw [hL]; exact ht) hR hF (.inl rfl)
  generalize xs.take i ++ vs.take m = L at hfin ⊢
  have FIN : Hid _ := hfin
  have hz2 : ¬ ((i : Int) = (n : Int)) := by omega
  have hin : (i : Int) < (n : Int) := by omega
  have him' : ¬ (i : Int) + (m : Int) < (n : Int) := by omega
  unfold maxLen at hc63
  clear hfin hR hF hl1 l2
  go_enter Try.func51, Try.ntmps51
  go_wp2_with (at_builtin; refine Lib.wpList_append_run _ rfl _ _ _ _ rfl _ _ rfl rfl _ _ (hap _) ?_)
  all_goals
    go_ret
    exact FIN.out _ rfl

set_option maxHeartbeats 2000000 in
set_option maxRecDepth 100000 in
theorem rep_tail_grow (g n c i gv m cv : Nat) (xs vs : List Rg) (w : World) (h : RowB g xs w) (hv : RowB gv vs w) (hne : gv ≠ g) (hi : i < n) (hm : 0 < m) (hnc : n ≤ c) (hroom : c < i + m) (hc : xs.length = c) (hc63 : c ≤ maxLen) (hml : m ≤ vs.length) (hbig : (i + m) * 16 ≤ 140737488355328) :
    Calls Try.prog 51 #[.slice (some ⟨g, 0, none⟩) n c, .int .i64 i, .int .i64 n, .slice (some ⟨gv, 0, none⟩) m cv] w fun e w' => Rowed g w w' e (xs.take i ++ vs.take m) := by
  have hap : ∃ W G, (∀ ty, (Builtin.append_ #[45, 45] ty #[.slice (some ⟨g, 0, none⟩) i c, .slice (some ⟨gv, 0, none⟩) m cv]).run Try.prog w = .ok (.slice (some ⟨w.heap.size, 0, none⟩) (i + m) G) W) ∧ i + m ≤ G ∧ G ≤ maxLen ∧ RowB w.heap.size (xs.take i ++ vs.take m ++ List.replicate (G - (i + m)) (0, 0)) W ∧ Fr (fun k => k = g) w W :=
    ⟨_, _, fun ty => by
      have := app_grow w ty g 0 i c gv 0 m cv xs vs h hv hroom (by omega) (by omega) hbig
      simp only [Nat.zero_mul, List.drop_zero] at this
      exact this, grownCap_ge _ _ _ _, grownCap_le_maxLen w _ _ _ (by unfold maxLen; omega), RowB.new w.drew _, (Fr.refl _ _).drew.alloc _⟩
  obtain ⟨W, G, hap, hG1, hG2, hR, hF⟩ := hap
  have hfin : ∀ e : Ending, e = .returned (.slice (some ⟨w.heap.size, 0, none⟩) (i + m) G) → Rowed g w W e (xs.take i ++ vs.take m) := fun e he => by
    have hL : (xs.take i ++ vs.take m).length = i + m := by simp; omega
    exact Rowed.mk _ _ he hL.symm (by rw [List.length_append, hL]; simp; omega) (by rw [List.length_append, hL]; simp; unfold maxLen at hG2 ⊢; omega) (by simp only [List.length_append]; omega) (by rw [hL]; exact new_list _ _ _ _ hL) hR hF (.inr (Nat.le_refl _))
  generalize xs.take i ++ vs.take m = L at hfin ⊢
  have FIN : Hid _ := hfin
  have hz2 : ¬ ((i : Int) = (n : Int)) := by omega
  have hin : (i : Int) < (n : Int) := by omega
  have him' : ¬ (i : Int) + (m : Int) < (n : Int) := by omega
  unfold maxLen at hc63
  clear hfin hR hF hG1 hG2
  go_enter Try.func51, Try.ntmps51
  go_wp2_with (at_builtin; refine Lib.wpList_append_run _ rfl _ _ _ _ rfl _ _ rfl rfl _ _ (hap _) ?_)
  all_goals
    go_ret
    exact FIN.out _ rfl
end Go.Proofs.Ytegabbfdnpjkkaa
