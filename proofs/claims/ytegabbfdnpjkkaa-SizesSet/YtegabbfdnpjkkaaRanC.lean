import Derived.Test.YtegabbfdnpjkkaaRanB
namespace Go.Proofs.Ytegabbfdnpjkkaa
open Go.RowKit
set_option linter.unusedVariables false

theorem wp_copy_run (w : World) {o : Oper} {a : Act} {K : Act → World → Prop} {Q : Exit → Act → World → Prop} (d s : Operand)
    (ho : o.op = .call { callee := .builtin .copy, args := #[d, s], argTypes := #[45, 45] }) (v u : Value) (hd : a.eval d = v) (hs : a.eval s = u) {v' : Value} {w' : World}
    (hr : (Builtin.copy_ #[45, 45] o.type #[v, u]).run Try.prog w = .ok v' w') (h : K (a.put o.dst v') w') : o.wp Try.prog a w K Q := by
  unfold Oper.wp execOp
  simp only [ho, resolve, invoke, builtin, Sem.run_bind, Sem.run_pure, Result.andThen_ok, List.map_toArray, List.map_cons, List.map_nil, hd, hs, hr]
  exact h
theorem wpList_copy_run (w : World) {ops : Array Oper} {rest : List Oper} {o : Oper} {a : Act} {Q : Exit → Act → World → Prop} (hgd : o.guard = none) (d s : Operand)
    (ho : o.op = .call { callee := .builtin .copy, args := #[d, s], argTypes := #[45, 45] }) (v u : Value) (hd : a.eval d = v) (hs : a.eval s = u) {v' : Value} {w' : World}
    (hr : (Builtin.copy_ #[45, 45] o.type #[v, u]).run Try.prog w = .ok v' w') (h : wpList Try.prog ops Q rest (a.put o.dst v') w') : wpList Try.prog ops Q (o :: rest) a w :=
  wpList_plain hgd fun _ hK => wp_copy_run w d s ho v u hd hs hr (hK _ _ h)
theorem step_copy_run {ops : Array Oper} {o : Oper} {a : Act} {w : World} {K : Act → World → Prop} {Q : Exit → Act → World → Prop} {E : Prop}
    (hg : o.guard = none) (d x : Operand) (hop : o.op = Op.call { callee := Callee.builtin Builtin.copy, args := #[d, x], argTypes := #[45, 45] })
    (v u : Value) (hd : a.eval d = v) (hx : a.eval x = u) {v' : Value} {w' : World} (hr : (Builtin.copy_ #[45, 45] o.type #[v, u]).run Try.prog w = .ok v' w') (hK : K (a.put o.dst v') w') :
    if Region.wanted o (yielded ops a.tmps) = true then Oper.wp Try.prog o a w K Q else E := by
  have hw : Region.wanted o (yielded ops a.tmps) = true := by simp [Region.wanted, hg]
  rw [if_pos hw]
  exact wp_copy_run w d x hop v u hd hx hr hK

/-- What a call that makes a longer or shorter row of L hands back. -/
def Rowed (g : Nat) (w w' : World) (e : Ending) (L : List Rg) : Prop :=
  ∃ g' xs', e = .returned (.slice (some ⟨g', 0, none⟩) L.length xs'.length) ∧ xs'.length ≤ maxLen ∧ L.length ≤ xs'.length ∧ xs'.take L.length = L ∧ RowB g' xs' w' ∧ Fr (fun k => k = g) w w' ∧ (g' = g ∨ w.heap.size ≤ g')

theorem Rowed.mk {g : Nat} {w w' : World} {e : Ending} {L : List Rg} {n c : Nat} (g' : Nat) (xs' : List Rg) (he : e = .returned (.slice (some ⟨g', 0, none⟩) n c)) (hn : n = L.length) (hc : c = xs'.length) (h1 : xs'.length ≤ maxLen) (h2 : L.length ≤ xs'.length) (h3 : xs'.take L.length = L) (h4 : RowB g' xs' w') (h5 : Fr (fun k => k = g) w w') (h6 : g' = g ∨ w.heap.size ≤ g') : Rowed g w w' e L :=
  ⟨g', xs', by rw [he, hn, hc], h1, h2, h3, h4, h5, h6⟩

/-- copy, as a step to a world of which only this is known. -/
theorem copy_step (w0 w : World) (g o n g' o' n' m : Nat) (xs ys : List Rg) (h : RowB g xs w) (h' : RowB g' ys w) (hm : Nat.min n' n = m) (ho : o + m ≤ xs.length) (ho' : o' + m ≤ ys.length) (X : Nat → Prop) (hx : X g ∨ w0.heap.size ≤ g) (hf : Fr X w0 w) :
    ∃ W, (∀ ty c c', (Builtin.copy_ #[45, 45] ty #[.slice (some ⟨g, o * 2, none⟩) n c, .slice (some ⟨g', o' * 2, none⟩) n' c']).run Try.prog w = .ok (goInt m) W) ∧ RowB g (spl xs o ((ys.drop o').take m)) W ∧ Fr X w0 W ∧ ∀ k zs, k ≠ g → RowB k zs w → RowB k zs W :=
  ⟨_, fun ty c c' => copy_pairs w ty g o n c g' o' n' c' m xs ys h h' hm ho ho', h.setRow _, hf.setRow g _ hx, fun k zs hk hz => hz.setRow' _ hk⟩

theorem shift_list (xs vs : List Rg) (n m i : Nat) (hi : i ≤ n) (hl : n + m ≤ xs.length) (hm : m ≤ vs.length) :
    (spl (spl xs (i + m) ((xs.drop i).take (n - i))) i (vs.take m)).take (n + m) = xs.take i ++ vs.take m ++ (xs.take n).drop i := by
  have l1 : ((xs.drop i).take (n - i)).length = n - i := by simp; omega
  have l2 : (vs.take m).length = m := by simp; omega
  have l3 : (xs.take i).length = i := by simp; omega
  apply List.ext_getElem?
  intro k
  rw [List.getElem?_take, get_spl _ _ _ (by rw [spl_length _ _ _ (by omega)]; omega), get_spl _ _ _ (by omega), l1, l2, List.append_assoc, List.getElem?_append, l3, List.getElem?_append, l2]
  simp only [List.getElem?_take, List.getElem?_drop]
  by_cases h1 : k < i
  · simp only [h1, if_true, if_pos (show k < n + m by omega), if_pos (show k < i + m by omega)]
  · by_cases h2 : k < i + m
    · simp only [h1, if_false, if_pos h2, if_pos (show k < n + m by omega), if_pos (show k - i < m by omega)]
    · by_cases h3 : k < n + m
      · simp only [h1, h2, if_false, if_pos h3, if_pos (show k < i + m + (n - i) by omega), if_pos (show k - (i + m) < n - i by omega), if_neg (show ¬ k - i < m by omega), if_pos (show i + (k - i - m) < n by omega)]
        congr 1; omega
      · simp only [h1, if_false, if_neg h3, if_neg (show ¬ k - i < m by omega), if_neg (show ¬ i + (k - i - m) < n by omega)]

set_option maxHeartbeats 2000000 in
set_option maxRecDepth 100000 in
/-- slices.Insert: there is room, i < len(s): in place. -/
theorem insert_shift (g n c i gv m cv : Nat) (xs vs : List Rg) (w : World) (h : RowB g xs w) (hv : RowB gv vs w) (hne : gv ≠ g) (hi : i < n) (hm : 0 < m) (hroom : n + m ≤ c) (hc : xs.length = c) (hc63 : c ≤ maxLen) (hml : m ≤ vs.length) :
    Calls Try.prog 62 #[.slice (some ⟨g, 0, none⟩) n c, .int .i64 i, .slice (some ⟨gv, 0, none⟩) m cv] w fun e w' => Rowed g w w' e (xs.take i ++ vs.take m ++ (xs.take n).drop i) := by
  unfold maxLen at hc63
  have hz1 : ¬ ((m : Int) = 0) := by omega
  have hz2 : ¬ ((i : Int) = (n : Int)) := by omega
  have hov : ∀ lb cb, (callFunc 63 #[.slice (some ⟨gv, 0, none⟩) m cv, .slice (some ⟨g, (i + m) * 2, none⟩) lb cb]).run Try.prog w = .ok (.value (.bool false)) w := fun lb cb => over_pairs w gv 0 m cv g _ lb cb vs xs hv h hne (by intro e; subst e; simp at hc; omega)
  have hw1 : IntKind.i64.wrap ((i : Int) + (m : Int)) = (i : Int) + (m : Int) := by rw [IntKind.wrap_i64]; omega
  have hb1 : (0 : Int) ≤ (i : Int) + (m : Int) := by omega
  have hin : i ≤ n := by omega
  have htn : ((i : Int) + (m : Int)).toNat = i + m := by omega
  have hb2 : ¬ (c = i + m) := by omega
  have hb3 : (i : Int) ≤ (n : Int) + (m : Int) := by omega
  have hb4 : ¬ (c = i) := by omega
  go_enter Try.func62, Try.ntmps62
  go_wp2_with (simp only [hov])
  obtain ⟨W1, hcp1, hR1, hF1, hK1⟩ := copy_step w w.drew g (i + m) (n + m - (i + m)) g i (n + m - i) (n - i) xs xs h h (by simp only [Nat.min_def]; split <;> omega) (by omega) (by omega) (fun k => k = g) (.inl rfl) (Fr.refl _ _).drew
  have hV1 := hK1 gv vs hne hv
  have hl1 : (spl xs (i + m) ((xs.drop i).take (n - i))).length = c := by rw [spl_length _ _ _ (by simp; omega), hc]
  obtain ⟨W2, hcp2, hR2, hF2, hK2⟩ := copy_step w W1 g i (n + m - i) gv 0 m m _ vs hR1 hV1 (by simp only [Nat.min_def]; split <;> omega) (by omega) (by omega) (fun k => k = g) (.inl rfl) hF1
  rw [List.drop_zero] at hR2
  have hfin : ∀ e : Ending, e = .returned (.slice (some ⟨g, 0, none⟩) (n + m) c) → Rowed g w W2 e (xs.take i ++ vs.take m ++ (xs.take n).drop i) := fun e he => by
    have hL : (xs.take i ++ vs.take m ++ (xs.take n).drop i).length = n + m := by simp; omega
    have hl2 : (spl (spl xs (i + m) ((xs.drop i).take (n - i))) i (vs.take m)).length = c := by rw [spl_length _ _ _ (by simp; omega), hl1]
    exact Rowed.mk g _ he hL.symm hl2.symm (by rw [hl2]; exact hc63) (by omega) (by rw [hL]; exact shift_list xs vs n m i (by omega) (by omega) hml) hR2 hF2 (.inl rfl)
  have FIN : Hid _ := hfin
  clear hfin hR2 hF2 hK2 hR1 hF1 hK1 hV1 hl1
  go_region_law (refine step_copy_run rfl _ _ rfl (.slice (some ⟨g, (i + m) * 2, none⟩) (n + m - (i + m)) (c - (i + m))) (.slice (some ⟨g, i * 2, none⟩) (n + m - i) (c - i)) (by simp [Act.eval, Act.put]) (by simp [Act.eval, Act.put]) (hcp1 _ _ _) ?_)
  go_wp2_with (at_builtin; refine wpList_copy_run _ rfl _ _ rfl _ _ rfl rfl (hcp2 _ _ _) ?_)
  go_ret
  exact FIN.out _ rfl
end Go.Proofs.Ytegabbfdnpjkkaa
