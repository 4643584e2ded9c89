import Derived.Test.YtegabbfdnpjkkaaRanD
namespace Go.Proofs.Ytegabbfdnpjkkaa
open Go.RowKit
set_option linter.unusedVariables false

theorem wp_clear_run (w : World) {o : Oper} {a : Act} {K : Act → World → Prop} {Q : Exit → Act → World → Prop} (d : Operand)
    (ho : o.op = .call { callee := .builtin .clear, args := #[d], argTypes := #[45] }) (v : Value) (hd : a.eval d = v) {v' : Value} {w' : World}
    (hr : (Builtin.clear_ #[45] o.type #[v]).run Try.prog w = .ok v' w') (h : K (a.put o.dst v') w') : o.wp Try.prog a w K Q := by
  unfold Oper.wp execOp
  simp only [ho, resolve, invoke, builtin, Sem.run_bind, Sem.run_pure, Result.andThen_ok, List.map_toArray, List.map_cons, List.map_nil, hd, hr]
  exact h
theorem wpList_clear_run (w : World) {ops : Array Oper} {rest : List Oper} {o : Oper} {a : Act} {Q : Exit → Act → World → Prop} (hgd : o.guard = none) (d : Operand)
    (ho : o.op = .call { callee := .builtin .clear, args := #[d], argTypes := #[45] }) (v : Value) (hd : a.eval d = v) {v' : Value} {w' : World}
    (hr : (Builtin.clear_ #[45] o.type #[v]).run Try.prog w = .ok v' w') (h : wpList Try.prog ops Q rest (a.put o.dst v') w') : wpList Try.prog ops Q (o :: rest) a w :=
  wpList_plain hgd fun _ hK => wp_clear_run w d ho v hd hr (hK _ _ h)
theorem clear_step (w0 w : World) (g o n : Nat) (xs : List Rg) (h : RowB g xs w) (ho : o + n ≤ xs.length) (hn : 0 < n) (X : Nat → Prop) (hx : X g ∨ w0.heap.size ≤ g) (hf : Fr X w0 w) :
    ∃ W, (∀ ty c, (Builtin.clear_ #[45] ty #[.slice (some ⟨g, o * 2, none⟩) n c]).run Try.prog w = .ok (.tuple #[]) W) ∧ RowB g (spl xs o (List.replicate n (0, 0))) W ∧ Fr X w0 W :=
  ⟨_, fun ty c => clear_pairs w ty g o n c xs h ho hn, h.setRow _, hf.setRow g _ hx⟩
theorem clear_zero (w : World) (ty : TypeId) (b : Option Addr) (c : Nat) : (Builtin.clear_ #[45] ty #[.slice b 0 c]).run Try.prog w = .ok (.tuple #[]) w := by
  cases b <;> simp [Builtin.clear_, run_underlying Try.underlying45]
theorem copy_zero (w : World) (ty : TypeId) (a : Addr) (n c : Nat) : (Builtin.copy_ #[45, 45] ty #[.slice (some a) n c, .slice none 0 0]).run Try.prog w = .ok (goInt 0) w := by
  obtain ⟨i, hi, hz, hs, hb⟩ := info49
  simp [Builtin.copy_, run_underlying Try.underlying45, Builtin.lenOf, Builtin.firstCells, sizeOf, typeInfo, hi, storeCells]

set_option maxHeartbeats 2000000 in
set_option maxRecDepth 100000 in
theorem insert_nil (gv m cv : Nat) (vs : List Rg) (w : World) (hv : RowB gv vs w) (hm : 0 < m) (hml : m ≤ vs.length) (hbig : m * 16 ≤ 140737488355328) :
    Calls Try.prog 62 #[.slice none 0 0, .int .i64 0, .slice (some ⟨gv, 0, none⟩) m cv] w fun e w' => Rowed w.heap.size w w' e (vs.take m) := by
  have hz1 : ¬ ((m : Int) = 0) := by omega
  have hap : ∃ W G, (∀ ty, (Builtin.append_ #[45, 45] ty #[.slice none 0 0, .slice (some ⟨gv, 0, none⟩) m cv]).run Try.prog w = .ok (.slice (some ⟨w.heap.size, 0, none⟩) m G) W) ∧ m ≤ G ∧ G ≤ maxLen ∧ RowB w.heap.size (vs.take m ++ List.replicate (G - m) (0, 0)) W ∧ Fr (fun k => k = w.heap.size) w W :=
    ⟨_, _, fun ty => by
      have := app_new w ty gv 0 m cv vs hv hm (by omega) hbig
      simp only [Nat.zero_mul, List.drop_zero] at this
      exact this, grownCap_ge _ _ _ _, grownCap_le_maxLen w _ _ _ (by unfold maxLen; omega), RowB.new w.drew _, (Fr.refl _ _).drew.alloc _⟩
  obtain ⟨W, G, hap, hG1, hG2, hR, hF⟩ := hap
  have hfin : ∀ e : Ending, e = .returned (.slice (some ⟨w.heap.size, 0, none⟩) m G) → Rowed w.heap.size w W e (vs.take m) := fun e he => by
    have hL : (vs.take m).length = m := by simp; omega
    exact Rowed.mk _ _ he hL.symm (by rw [List.length_append, hL]; simp; omega) (by rw [List.length_append, hL]; simp; unfold maxLen at hG2 ⊢; omega) (by simp only [List.length_append]; omega) (by rw [hL, List.take_append_of_le_length (by omega), List.take_of_length_le (by omega)]) hR hF (.inl rfl)
  generalize vs.take m = L at hfin ⊢
  have FIN : Hid _ := hfin
  clear hfin hR hF hG1 hG2
  go_enter Try.func62, Try.ntmps62
  go_wp2_with (at_builtin; refine Lib.wpList_append_run _ rfl _ _ _ _ rfl _ _ rfl rfl _ _ (hap _) ?_)
  all_goals
    go_ret
    exact FIN.out _ rfl

set_option maxHeartbeats 2000000 in
set_option maxRecDepth 100000 in
theorem insert_zero (g n c i : Nat) (w : World) (hi : i ≤ n) (hn : n ≤ c) (hc : c ≤ maxLen) :
    Calls Try.prog 62 #[.slice (some ⟨g, 0, none⟩) n c, .int .i64 i, .slice none 0 0] w fun e w' => e = .returned (.slice (some ⟨g, 0, none⟩) n c) ∧ w' = w := by
  unfold maxLen at hc
  go_enter Try.func62, Try.ntmps62
  go_wp2
  all_goals
    go_ret
    exact ⟨rfl, rfl⟩
set_option maxHeartbeats 2000000 in
set_option maxRecDepth 100000 in
theorem insert_nil_zero (w : World) :
    Calls Try.prog 62 #[.slice none 0 0, .int .i64 0, .slice none 0 0] w fun e w' => e = .returned (.slice none 0 0) ∧ w' = w := by
  go_enter Try.func62, Try.ntmps62
  go_wp2
  all_goals
    go_ret
    exact ⟨rfl, rfl⟩

theorem insert_any (g n c i gv m cv : Nat) (xs vs : List Rg) (w : World) (h : RowB g xs w) (hv : RowB gv vs w) (hne : gv ≠ g) (hi : i ≤ n) (hm : 0 < m) (hnc : n ≤ c) (hc : xs.length = c) (hc63 : c ≤ maxLen) (hml : m ≤ vs.length) (hbig : (n + m) * 16 ≤ 140737488355328) :
    Calls Try.prog 62 #[.slice (some ⟨g, 0, none⟩) n c, .int .i64 i, .slice (some ⟨gv, 0, none⟩) m cv] w fun e w' => Rowed g w w' e (xs.take i ++ vs.take m ++ (xs.take n).drop i) := by
  by_cases hin : i = n
  · subst hin
    by_cases hr : i + m ≤ c
    · exact insert_end_room g i c gv m cv xs vs w h hv hne hm hr hc hc63 hml
    · exact insert_end_grow g i c gv m cv xs vs w h hv hne hm (by omega) hnc hc hc63 hml hbig
  · by_cases hr : n + m ≤ c
    · exact insert_shift g n c i gv m cv xs vs w h hv hne (by omega) hm hr hc hc63 hml
    · exact insert_grow g n c i gv m cv xs vs w h hv hne (by omega) hm (by omega) hnc hc hc63 hml hbig

/-! ### slices.Replace -/
set_option maxHeartbeats 2000000 in
set_option maxRecDepth 100000 in
theorem rep_same (g n c i gv m cv : Nat) (xs vs : List Rg) (w : World) (h : RowB g xs w) (hv : RowB gv vs w) (hne : gv ≠ g) (hi : i ≤ n) (hm : 0 < m) (hnc : n ≤ c) (hc : xs.length = c) (hc63 : c ≤ maxLen) (hml : m ≤ vs.length) (hbig : (n + m) * 16 ≤ 140737488355328) :
    Calls Try.prog 51 #[.slice (some ⟨g, 0, none⟩) n c, .int .i64 i, .int .i64 i, .slice (some ⟨gv, 0, none⟩) m cv] w fun e w' => Rowed g w w' e (xs.take i ++ vs.take m ++ (xs.take n).drop i) := by
  have hins := insert_any g n c i gv m cv xs vs w h hv hne hi hm hnc hc hc63 hml hbig
  generalize xs.take i ++ vs.take m ++ (xs.take n).drop i = L at hins ⊢
  unfold maxLen at hc63
  go_enter Try.func51, Try.ntmps51
  go_wp2_with (go_at_call 62; refine hins.mono ?_; rintro e w' ⟨g', xs', rfl, r1, r2, r3, r4, r5, r6⟩)
  all_goals
    go_ret
    exact ⟨g', xs', rfl, r1, r2, r3, r4, r5, r6⟩
end Go.Proofs.Ytegabbfdnpjkkaa
