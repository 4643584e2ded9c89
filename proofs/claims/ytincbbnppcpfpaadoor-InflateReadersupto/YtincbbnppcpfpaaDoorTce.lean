import Derived.Test.YtincbbnppcpfpaaDoorTca
namespace Go.Proofs.YtincbbnppcpfpaaDoor
open Go.RowKit
set_option linter.unusedVariables false
variable {sb ga cg most p er : Nat} {b out : List By} {og : Option Nat} {vo : Value} {w : World}
set_option maxHeartbeats 8000000 in
set_option maxRecDepth 100000 in
/-- put of one byte, while all is well. -/
theorem hput_any (h : DsI sb ga cg b most p og vo out 0 w) (g : Nat) (x : By) (hx : Sl (fun _ => False) (.slice (some ⟨g, 0, none⟩) 1 1) [x] w) :
    Calls Tryd.prog 47 #[.pointer (some ⟨sb, 0, none⟩), .slice (some ⟨g, 0, none⟩) 1 1] w fun e w' => (∃ v, e = .returned v) ∧ Hid (
      (most - out.length < 1 ∧ DsI sb ga cg b most p og vo out 32 w' ∧ Fr (fun k => k = sb) w w') ∨
      (¬ most - out.length < 1 ∧ ∃ og' vo', DsI sb ga cg b most p og' vo' (out ++ [x]) 0 w' ∧ Went og og' w ∧ Fr (fun k => k = sb ∨ og = some k) w w')) := by
  obtain ⟨P, hP⟩ : ∃ P : Ending → World → Prop, P = fun e w' => (∃ v, e = .returned v) ∧ Hid (
      (most - out.length < 1 ∧ DsI sb ga cg b most p og vo out 32 w' ∧ Fr (fun k => k = sb) w w') ∨
      (¬ most - out.length < 1 ∧ ∃ og' vo', DsI sb ga cg b most p og' vo' (out ++ [x]) 0 w' ∧ Went og og' w ∧ Fr (fun k => k = sb ∨ og = some k) w w')) := ⟨_, rfl⟩
  rw [← hP]
  obtain ⟨x2, x3⟩ := And.intro (ds2 h).1 (ds3 h).1
  obtain ⟨x4, y4⟩ := ds4 h
  have hml := h.ml
  have hol := h.ol
  obtain ⟨q, hq⟩ : ∃ q, q = most - out.length := ⟨_, rfl⟩
  have hqi : (most : Int) - (out.length : Int) = (q : Int) := by omega
  obtain ⟨a, c, rfl, hc1, hc2⟩ := h.ho.form
  by_cases hs : q < 1
  · have HF : Hid (∀ V v, Nw w V → P (.returned v) (V.setCell ⟨sb, 4, none⟩ (.int .i64 32))) := fun V v hV => by
      obtain ⟨k1, k2⟩ := (h.nw hV).setE 32 32 rfl
      rw [hP]
      exact ⟨⟨_, rfl⟩, .inl ⟨by omega, k1, hV.any.trans k2⟩⟩
    have hz : (q : Int) < 1 := by omega
    clear hP h hx hq
    generalize out.length = L at *
    go_enter Tryd.func47, Tryd.ntmps47
    go_wp2_with fail
    go_quiet (fail)
    go_wp2_with fail
    go_end0
    exact HF.out _ _ ((Fr.refl _ _).drewN _)
  · have HA : Hid (∀ V, Nw w V → V.cell? ⟨sb, 2, none⟩ = some (.slice a out.length c) ∧ ∃ a' l' c' W, Hid (∀ ty, (Builtin.append_ #[22, 22] ty #[.slice a out.length c, .slice (some ⟨g, 0, none⟩) 1 1]).run Tryd.prog V = .ok (.slice a' l' c') W) ∧ W.cell? ⟨sb, 2, none⟩ = some (.slice a out.length c) ∧ W.frozen? ⟨sb, 2, none⟩ = false ∧ Hid (∀ v, P (.returned v) (W.setCell ⟨sb, 2, none⟩ (.slice a' l' c')))) := fun V hV => by
      have hV' := h.nw hV
      obtain ⟨v', og', W, k1, k2, k3, k4⟩ := og_app V og _ out hV'.ho _ _ (hx.nw hV) (by simp; omega)
      obtain ⟨a', c', rfl, _⟩ := k2.form
      obtain ⟨j1, j2⟩ := hV'.setO k3 k2 k4 (by simp; omega)
      have hrow := row_kept hV'.row k3 (fun e => (h.n2 sb e).1 rfl)
      refine ⟨(ds2 hV').1, a', _, c', W, k1, (row_cell hrow 2 _ rfl).1, (row_cell hrow 2 _ rfl).2, fun v => ?_⟩
      rw [hP]
      exact ⟨⟨_, rfl⟩, .inr ⟨by omega, og', _, j1, (Went.refl og w).trans k4 hV.size, hV.any.trans j2⟩⟩
    have hz : ¬ (q : Int) < 1 := by omega
    clear hP h hx hq
    generalize out.length = L at *
    go_enter Tryd.func47, Tryd.ntmps47
    go_wp2_with fail
    go_quiet (fail)
    obtain ⟨x2, a', l', c', W, HAP, z1, z2, HF⟩ := HA.out (w.drewN nq) ((Fr.refl _ _).drewN _)
    clear HA
    go_wp2_with (first | (at_builtin; refine Lib.wpList_append_run _ rfl _ _ 22 22 rfl (.slice a L c) (.slice (some ⟨g, 0, none⟩) 1 1) (by simp [Act.eval]) (by simp [Act.eval]) _ _ (HAP.out _) ?_))
    go_end0
    exact HF.out _
end Go.Proofs.YtincbbnppcpfpaaDoor
