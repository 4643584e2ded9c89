import Derived.Test.YtkpkiajehclbhaaBjE
namespace Go.Proofs.Ytkpkiajehclbhaa
open Go.RowKit
set_option linter.unusedVariables false
theorem step_append_w {ops : Array Oper} {o : Oper} {a : Act} {w : World} {K : Act → World → Prop} {Q : Exit → Act → World → Prop} {E : Prop} (hg : o.guard = none) (s x : Operand) (hop : o.op = Op.call { callee := Callee.builtin Builtin.append, args := #[s, x], argTypes := #[22, 22] })
    (vs vx : Value) (hs : a.eval s = vs) (hx : a.eval x = vx) (v' : Value) (W : World) (hrun : ∀ ty, (Builtin.append_ #[22, 22] ty #[vs, vx]).run Try.prog w = .ok v' W) (hK : K (a.put o.dst v') W) :
    if Region.wanted o (yielded ops a.tmps) = true then Oper.wp Try.prog o a w K Q else E := by
  have hw : Region.wanted o (yielded ops a.tmps) = true := by simp [Region.wanted, hg]
  rw [if_pos hw]
  unfold Oper.wp
  simp [execOp, hop, resolve, invoke, builtin, hs, hx, hrun, Result.andThen]
  exact hK
theorem step_call_bits {ops : Array Oper} {o : Oper} {a : Act} {w : World} {K : Act → World → Prop} {Q : Exit → Act → World → Prop} {E : Prop} (hg : o.guard = none) (x : Operand) (T : Nat) (hop : o.op = Op.call { callee := Callee.value (Operand.func 11), args := #[x], argTypes := #[T] })
    (vx : Value) (hx : a.eval x = vx) (R : Ending → World → Prop) (hc : Calls Try.prog 11 #[vx] w R) (hK : ∀ e w', R e w' → ∃ v, e = .returned v ∧ K (a.put o.dst v) w') :
    if Region.wanted o (yielded ops a.tmps) = true then Oper.wp Try.prog o a w K Q else E := by
  have hw : Region.wanted o (yielded ops a.tmps) = true := by simp [Region.wanted, hg]
  rw [if_pos hw]
  unfold Oper.wp
  have e : (execOp a.eval o).run Try.prog w = .ok (.enter 11 #[vx]) w := by
    simp [execOp, hop, resolve, invoke, hx, Result.andThen]
    simp [Act.eval, Deferred.ofValue]
  rw [e, Oper.upon_enter]
  refine hc.mono ?_
  intro e w' h
  obtain ⟨v, rfl, hk⟩ := hK e w' h
  exact hk
variable {wb : Nat} {og : Option Nat} {V n : Nat} {w : World}
set_option maxHeartbeats 8000000 in
set_option maxRecDepth 100000 in
theorem swalign_any (h : Ws wb og V n w) (hn : n ≤ 900000000000) : Calls Try.prog 26 #[.pointer (some ⟨wb, 0, none⟩)] w fun e w' => (∃ r, e = .returned r) ∧ ∃ og', Ws wb og' V (up8 n) w' ∧ Fr (fun k => k = wb ∨ og = some k) w w' ∧ Went og og' w := by
  obtain ⟨P, hP⟩ : ∃ P : Ending → World → Prop, P = fun e w' => (∃ r, e = .returned r) ∧ ∃ og', Ws wb og' V (up8 n) w' ∧ Fr (fun k => k = wb ∨ og = some k) w w' ∧ Went og og' w := ⟨_, rfl⟩
  rw [← hP]
  have HI0 : Hid (∃ og', Ws wb og' V n w ∧ Fr (fun k => k = wb ∨ og = some k) w w ∧ Went og og' w) := ⟨og, h, Fr.refl _ _, .inl rfl⟩
  obtain ⟨u1, u2, u3, _⟩ := up8_ge n
  have HP : Hid (P = fun e w' => (∃ r, e = .returned r) ∧ ∃ og', Ws wb og' V (up8 n) w' ∧ Fr (fun k => k = wb ∨ og = some k) w w' ∧ Went og og' w) := hP
  clear hP h
  generalize up8 n = u at *
  have hu3' : Hid (u % 8 = 0) := u3
  clear u3
  go_enter Try.func26, Try.ntmps26
  go_wp2
  go_loopg [] 8 (fun kx wr => ∃ (q : Nat), n ≤ q ∧ q ≤ u ∧ u - q ≤ kx ∧ Hid (∃ og', Ws wb og' V q wr ∧ Fr (fun k => k = wb ∨ og = some k) w wr ∧ Went og og' w))
  case atStart => exact ⟨n, by omega, by omega, by omega, HI0⟩
  case round =>
    obtain ⟨q, hq1, hq2, hkx, HI⟩ := hrel
    clear HI0
    obtain ⟨og1, hR, hF, hG⟩ := HI.out
    by_cases hlt : q < u
    · obtain ⟨z, hz⟩ : ∃ z, z = q % 8 := ⟨_, rfl⟩
      have hzq : (q : Int) % 8 = (z : Int) := by omega
      have hzn : ((z : Int) != 0) = true := by have := hu3'.out; simp; omega
      obtain ⟨a, c, a2, L2, c2, W, og2, k0, k1, k2, HAP, ⟨x, k4⟩, k5, k6, k7, k8⟩ := hR.push (by omega) 0 (by decide) 0 rfl
      have HN : Hid (∃ og', Ws wb og' V (q + 1) (W.setCell ⟨wb, 0, none⟩ (.slice a2 L2 c2)) ∧ Fr (fun k => k = wb ∨ og = some k) w (W.setCell ⟨wb, 0, none⟩ (.slice a2 L2 c2)) ∧ Went og og' w) := by
        rw [Nat.zero_mul, Nat.add_zero] at k6
        refine ⟨og2, k6, Fr.then hF k7 (fun i hi => ?_), hG.trans k8 hF.size⟩
        rcases hi with rfl | hi
        · exact .inl (.inl rfl)
        · rcases hG with rfl | ⟨g, rfl, hg⟩
          · exact .inl (.inr hi)
          · injection hi with hi; subst hi; exact .inr hg
      clear HI hR hF hG k6 k7 k8 hz HP
      go_wp2_with (first
        | (at_builtin; refine Lib.wpList_append_run _ rfl _ _ 22 22 rfl (.slice a q c) (.slice (some ⟨_, 0, none⟩) 1 1) (by simp [Act.eval]) (by simp [Act.eval]) _ _ (HAP.out _) ?_))
      go_roundg (u - (q + 1))
      case measure => omega
      case rel => exact ⟨q + 1, by omega, by omega, by omega, HN⟩
    · obtain rfl : q = u := by omega
      have hzq : (q : Int) % 8 = 0 := by have := hu3'.out; omega
      obtain ⟨a, c, x0, _, x2, x3, _⟩ := hR.cells
      have HF : Hid (∀ r, P (.returned r) wr) := fun r => by rw [HP.out]; exact ⟨⟨_, rfl⟩, og1, hR, hF, hG⟩
      clear HI hR hF hG HP
      go_wp2_with fail
      go_end0
      exact HF.out _
set_option maxHeartbeats 8000000 in
set_option maxRecDepth 100000 in
theorem swadd_any (h : Ws wb og V n w) (hn : n ≤ 900000000000) (v : Value) (b : List By) (hb : Sl (fun k => k = wb ∨ og = some k) v b w) (hbl : b.length ≤ 1000000000) : Calls Try.prog 28 #[.pointer (some ⟨wb, 0, none⟩), v] w fun e w' => (∃ r, e = .returned r) ∧ ∃ og', Ws wb og' (V + le b * 2 ^ up8 n) (up8 n + 8 * b.length) w' ∧ Fr (fun k => k = wb ∨ og = some k) w w' ∧ Went og og' w := by
  obtain ⟨P, hP⟩ : ∃ P : Ending → World → Prop, P = fun e w' => (∃ r, e = .returned r) ∧ ∃ og', Ws wb og' (V + le b * 2 ^ up8 n) (up8 n + 8 * b.length) w' ∧ Fr (fun k => k = wb ∨ og = some k) w w' ∧ Went og og' w := ⟨_, rfl⟩
  rw [← hP]
  obtain ⟨u1, u2, u3, u4⟩ := up8_ge n
  obtain ⟨u, hu⟩ : ∃ u, u = up8 n := ⟨_, rfl⟩
  rw [← hu] at u1 u2 u3 u4
  have HC : Hid (Calls Try.prog 26 #[.pointer (some ⟨wb, 0, none⟩)] w fun e w1 => (∃ r, e = .returned r) ∧ ∃ a c, w1.cell? ⟨wb, 0, none⟩ = some (.slice a u c) ∧ w1.frozen? ⟨wb, 0, none⟩ = false ∧ Hid (Calls Try.prog 11 #[v] w1.drew fun e w2 => ∃ ab Lb cb a2 L2 c2 W, e = .returned (.slice ab Lb cb) ∧ w2.cell? ⟨wb, 0, none⟩ = some (.slice a u c) ∧ w2.frozen? ⟨wb, 0, none⟩ = false ∧ Hid (∀ ty, (Builtin.append_ #[22, 22] ty #[.slice a u c, .slice ab Lb cb]).run Try.prog w2 = .ok (.slice a2 L2 c2) W) ∧ W.cell? ⟨wb, 0, none⟩ = some (.slice a u c) ∧ W.frozen? ⟨wb, 0, none⟩ = false ∧ Hid (∀ r, P (.returned r) (W.setCell ⟨wb, 0, none⟩ (.slice a2 L2 c2))))) := by
    refine (swalign_any h hn).mono ?_
    rintro e w1 ⟨he, og1, hW, hF, hG⟩
    rw [← hu] at hW
    obtain ⟨a, c, x0, x1, x2, x3, hO⟩ := hW.cells
    refine ⟨he, a, c, x0, x1, ?_⟩
    have hb1 : Sl (fun _ => False) v b w1.drew := ((hb.kept hF (fun g hg => hg)).nw ((Fr.refl _ _).drew)).mono (fun _ h => h.elim)
    refine (sBits_any w1.drew v b hb1 (by omega)).mono ?_
    rintro e w2 ⟨gb, cb, rfl, hgb, hOb, hN⟩
    have hN1 : Nw w1 w2 := ((Fr.refl _ _).drew).trans hN
    obtain ⟨a2, L2, c2, W, og2, k1, k2, k3, k4, k5, k6⟩ := hW.app (by omega) w2 hN1 _ (le b) (8 * b.length) (hOb.slb |> fun h => Sl.mono (.inr ⟨gb, fun h => h, h⟩) (fun _ h => h)) (by omega) a c x0
    have hrow := (hW.nw hN1).cells
    refine ⟨_, _, _, a2, L2, c2, W, rfl, hN1.cell x0, ?_, k1, k2, k3, fun r => ?_⟩
    · obtain ⟨vb, r1, _⟩ := (hW.nw hN1).row
      exact (row_cell r1 0 _ rfl).2
    · rw [hP]
      have hle : le b % 2 ^ (8 * b.length) = le b := Nat.mod_eq_of_lt (by rw [← pow256]; exact le_lt b)
      rw [hle] at k4
      refine ⟨⟨_, rfl⟩, og2, by rw [← hu]; exact k4, Fr.then hF k5 (fun i hi => ?_), hG.trans k6 hF.size⟩
      rcases hi with rfl | hi
      · exact .inl (.inl rfl)
      · rcases hG with rfl | ⟨g, rfl, hg⟩
        · exact .inl (.inr hi)
        · injection hi with hi; subst hi; exact .inr hg
  obtain ⟨av, cv, rfl, hcv, hcv2⟩ := hb.form
  clear hP h hb hu u3 u4
  generalize b.length = B at *
  go_enter Try.func28, Try.ntmps28
  go_upto_region 1 with (first | (go_at_call 26; (with_reducible refine HC.out.mono ?_); rintro e w1 ⟨⟨r, rfl⟩, a, c, x0, x1, H1⟩))
  clear HC
  have x0d : w1.drew.cell? ⟨wb, 0, none⟩ = some (.slice a u c) := x0
  have x1d : w1.drew.frozen? ⟨wb, 0, none⟩ = false := x1
  go_region_law (first
    | (refine step_append_w rfl _ _ rfl (.slice a u c) (.slice ab Lb cb) (by first | rfl | simp [Act.eval, Act.put]) (by first | rfl | simp [Act.eval, Act.put]) _ _ (HAP.out) ?_)
    | (refine step_call_bits rfl _ _ rfl (.slice av B cv) (by first | rfl | simp [Act.eval, Act.put]) _ H1.out ?_; rintro e w2 ⟨ab, Lb, cb, a2, L2, c2, W, rfl, y0, y1, HAP, y2, y3, HF⟩; refine ⟨_, rfl, ?_⟩))
  all_goals go_end0
  all_goals exact HF.out _
end Go.Proofs.Ytkpkiajehclbhaa
