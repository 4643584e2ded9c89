import Derived.Test.YtpnacppmdlnjlaaMaG
import Derived.Deep.RegionHeld3
namespace Go.Proofs.Ytpnacppmdlnjlaa
open Go.RowKit
set_option linter.unusedVariables false
theorem appS_wide (w : World) (g : Nat) (v : Value) (l : List Q) (hO : OwS g v l w) (gq : Nat) (q : Q) (hx : Sw gq [q] w) (hb : l.length ≤ 4000000000000) :
    ∃ v' g' W, (∀ ty, (Builtin.append_ #[31, 31] ty #[v, .slice (some ⟨gq, 0, none⟩) 1 1]).run Try.prog w = .ok v' W) ∧ OwS g' v' (l ++ [q]) W ∧ Fr (fun k => k = g) w W ∧ (g' = g ∨ w.heap.size ≤ g') := by
  obtain ⟨xs, rfl, h2, h3, h4, h5⟩ := hO
  obtain ⟨i, hi, hz, hs, hby⟩ := infoS
  have hsrc := srcS w gq q hx
  by_cases hroom : l.length + 1 ≤ xs.length
  · have hst := run_storeCells_at (P := Try.prog) g (0 + l.length * 3) 36 (flat [q]) 0 (flat xs).toArray w h5 (by simp [flat_length]; omega) (flat_one _)
    refine ⟨.slice (some ⟨g, 0, none⟩) (l.length + 1) xs.length, g, w.setRow g ((flat (l ++ [q] ++ xs.drop (l.length + 1))).toArray), fun ty => ?_, ?_, ?_, .inl rfl⟩
    · obtain ⟨W0, hW0⟩ : ∃ W0, W0 = w.setRow g ((flat (l ++ [q] ++ xs.drop (l.length + 1))).toArray) := ⟨_, rfl⟩
      have hst' : (storeCells ⟨g, l.length * 3, none⟩ (flat [q])).run Try.prog w = .ok () W0 := by
        rw [← Nat.zero_add (l.length * 3), hst, hW0]
        congr 3
        simp only [Nat.add_zero, Nat.zero_add]
        rw [flat_length, List.length_singleton, show l.length * 3 = 3 * l.length by omega, show 3 * l.length + 3 * 1 = 3 * (l.length + 1) by omega, flat_take _ _ (by omega), flat_drop _ _ (by omega), h2, flat_append, flat_append]
      rw [← hW0]
      clear hst
      rcases hsrc.kind with ⟨e', hk⟩ | hk
      · simp [Builtin.append_, run_underlying Try.underlying31, sizeOf, typeInfo, hi, hs, hsrc.len, hroom, hsrc.cells, Addr.add_lit, hst']
      · rw [Try.underlying31] at hk; cases hk
    · refine ⟨l ++ [q] ++ xs.drop (l.length + 1), ?_, ?_, ?_, ?_, ?_⟩
      · simp; omega
      · rw [List.take_append_of_le_length (by simp), List.take_of_length_le (by simp)]
      · simp
      · simp; omega
      · exact setRow_heap w g _ _ 36 _ h5
    · exact (Fr.refl _ _).setRow _ _ (.inl rfl)
  · have hold : (Builtin.firstCells i.size l.length (.slice (some ⟨g, 0, none⟩) l.length xs.length)).run Try.prog w.drew = .ok (flat l).toArray w.drew := by
      rw [hs]
      refine run_firstCells_some w.drew 3 l.length ⟨g, 0, none⟩ l.length xs.length (flat l) (by simp [flat_length]; omega) (fun j u hj => ?_)
      rw [add_addr, Nat.zero_add]
      have hjl : j < 3 * l.length := by have := (List.getElem?_eq_some_iff.1 hj).1; rw [flat_length] at this; exact this
      have : (flat xs)[j]? = some u := by
        rw [← h2, ← flat_take _ _ h3, List.getElem?_take, if_pos hjl] at hj
        exact hj
      unfold Sw at h5
      show w.cell? _ = _
      simp [World.cell?, h5, this]
    have hrun := fun ty => run_append_grow_src w 31 31 ty 36 i _ Try.underlying31 hi hz (some ⟨g, 0, none⟩) l.length xs.length _ hold _ 1 _ (by rw [hs]; exact hsrc) (by omega) (by omega) (by rw [hby]; exact growslice_fits_wide (by omega) (by omega))
    have hge := grownCap_ge w (l.length + 1) xs.length 36
    have hle := grownCap_le_maxLen w (l.length + 1) xs.length 36 (by unfold maxLen; omega)
    unfold maxLen at hle
    generalize grownCap w (l.length + 1) xs.length 36 = G at *
    refine ⟨_, w.heap.size, _, hrun, ?_, (Fr.refl _ _).drew.alloc _, .inr (Nat.le_refl _)⟩
    have e : ((flat l ++ flat [q]).toArray ++ Builtin.zeroCells (Value.agg #[.slice none 0 0, .int .i64 0, .int .i64 0]).cells (G - (l.length + 1))) = (flat (l ++ [q] ++ List.replicate (G - (l.length + 1)) q0)).toArray := by
      rw [zeroS, flat_append, flat_append]; simp
    rw [e]
    refine ⟨l ++ [q] ++ List.replicate (G - (l.length + 1)) q0, ?_, ?_, ?_, ?_, ?_⟩
    · simp; omega
    · rw [List.take_append_of_le_length (by simp), List.take_of_length_le (by simp)]
    · simp
    · simp; omega
    · show (w.heap.push _)[w.heap.size]? = _
      simp

/-- How copies' loop stands: so many sequences in memory of their own. -/
structure CpI (w : World) (l : List Si) (I : Nat) (g c : Nat) (wr : World) : Prop where
  row : ∃ qs : List Q, qs.length = I ∧ OwS g (.slice (some ⟨g, 0, none⟩) I c) qs wr ∧ ∀ i (h : i < l.length), i < I → ∃ q gp, qs[i]? = some q ∧ w.heap.size ≤ gp ∧ gp ≠ g ∧ gp < wr.heap.size ∧ SlB gp q.v l[i].p wr ∧ q.b = l[i].b ∧ q.l = l[i].n
  base : w.heap.size ≤ g
  nw : Nw w wr
theorem SlB.kept' {g : Nat} {v : Value} {l : List By} {w w' : World} {X : Nat → Prop} (h : SlB g v l w) (f : Fr X w w') (hx : ¬ X g) : SlB g v l w' := by
  obtain ⟨o, c, h1, h2, h3, h4⟩ := h
  exact ⟨o, c, h1, h2, h3, fun j hj => f.cellv (h4 j hj) hx⟩
theorem CpI.start (w : World) (l : List Si) : CpI w l 0 w.heap.size 0 (w.alloc (.cells #[] 36)) := by
  refine ⟨⟨[], rfl, ⟨[], rfl, rfl, by simp, by simp, ?_⟩, fun i h hi => by omega⟩, Nat.le_refl _, (Fr.refl _ _).alloc _⟩
  show (w.heap.push _)[w.heap.size]? = _
  simp [flat]
theorem CpI.step {w : World} {l : List Si} {I g c : Nat} {wr : World} (h : CpI w l I g c wr) (hI : I < l.length) (hL : l.length ≤ 4000000000000) (pa : Option Addr) (pc : Nat) (hp : Sl (fun k => w.heap.size ≤ k) (.slice pa l[I].p.length pc) l[I].p wr) (hpl : l[I].p.length ≤ 140737488351232) :
    ∃ a1 c1 W1 g' c' W2, Hid (∀ ty, (Builtin.append_ #[22, 22] ty #[.slice (some ⟨wr.heap.size, 0, none⟩) 0 0, .slice pa l[I].p.length pc]).run Try.prog (wr.drew.alloc (.cells #[] 5)) = .ok (.slice a1 l[I].p.length c1) W1) ∧
      Hid (∀ ty, (Builtin.append_ #[31, 31] ty #[.slice (some ⟨g, 0, none⟩) I c, .slice (some ⟨W1.heap.size, 0, none⟩) 1 1]).run Try.prog (W1.alloc (.cells #[.slice a1 l[I].p.length c1, .int .i64 l[I].b, .int .i64 l[I].n] 36)) = .ok (.slice (some ⟨g', 0, none⟩) (I + 1) c') W2) ∧ Nw wr W1 ∧ Fr (fun k => k = g) wr W2 ∧ CpI w l (I + 1) g' c' W2 := by
  obtain ⟨qs, hql, hOs, hel⟩ := h.row
  have hA0 : Nw wr (wr.drew.alloc (.cells #[] 5)) := (Fr.refl _ _).drew.alloc _
  have hsd : wr.drew.heap.size = wr.heap.size := rfl
  have hw := h.nw.size
  obtain ⟨v1, g1, W1, hap1, hO1, hF1, hg1⟩ := app_any (wr.drew.alloc (.cells #[] 5)) wr.heap.size _ [] (Ow.empty wr.drew) (.slice pa l[I].p.length pc) l[I].p ((hp.nw hA0).mono (fun _ h => h.elim)) (by simp; omega)
  rw [List.nil_append] at hO1
  have hN1 : Nw wr W1 := Fr.then hA0 hF1 (fun k hk => .inr (by omega))
  have hg1' : wr.heap.size ≤ g1 := by
    rcases hg1 with h | h
    · omega
    · have := hA0.size; omega
  have hO1' := hO1
  obtain ⟨ys, rfl, _, _, _, _⟩ := hO1'
  obtain ⟨W3, hW3⟩ : ∃ W3, W1.alloc (.cells #[.slice (some ⟨g1, 0, none⟩) l[I].p.length ys.length, .int .i64 l[I].b, .int .i64 l[I].n] 36) = W3 := ⟨_, rfl⟩
  have hN3 : Nw W1 W3 := by rw [← hW3]; exact (Fr.refl _ _).alloc _
  have hs3 : W3.heap.size = W1.heap.size + 1 := by rw [← hW3]; simp
  have hSw : Sw W1.heap.size [(⟨some ⟨g1, 0, none⟩, l[I].p.length, ys.length, l[I].b, l[I].n⟩ : Q)] W3 := by
    rw [← hW3]
    show (W1.heap.push _)[W1.heap.size]? = _
    simp [flat, Q.cs]
  have hgl := hOs.lt
  have hs1 := hN1.size
  obtain ⟨v2, g2, W2, hap2, hO2, hF2, hg2⟩ := appS_wide W3 g _ qs (hOs.nw (hN1.trans hN3)) W1.heap.size _ hSw (by omega)
  have hO2' := hO2
  obtain ⟨zs, rfl, _, _, _, _⟩ := hO2'
  have hlen : (qs ++ [(⟨some ⟨g1, 0, none⟩, l[I].p.length, ys.length, l[I].b, l[I].n⟩ : Q)]).length = I + 1 := by simp [hql]
  rw [hlen] at hap2 hO2
  have hs2 := hF2.size
  have hb := h.base
  have hg1l := hO1.lt
  refine ⟨some ⟨g1, 0, none⟩, ys.length, W1, g2, zs.length, W2, hap1, by rw [hW3]; exact hap2, hN1, Fr.then (hN1.trans hN3).any hF2 (fun k hk => .inl hk), ⟨⟨_, hlen, hO2, fun i hi hi2 => ?_⟩, by rcases hg2 with h | h <;> omega, Fr.then (h.nw.trans (hN1.trans hN3)) hF2 (fun k hk => .inr (by omega))⟩⟩
  by_cases hiI : i < I
  · obtain ⟨q, gp, k1, k2, k3, k4, k5, k6, k7⟩ := hel i hi hiI
    refine ⟨q, gp, ?_, k2, by rcases hg2 with h | h <;> omega, by omega, (k5.kept' (hN1.trans hN3) (fun h => h)).kept' hF2 k3, k6, k7⟩
    rw [List.getElem?_append_left (by omega)]
    exact k1
  · obtain rfl : i = I := by omega
    refine ⟨(⟨some ⟨g1, 0, none⟩, l[i].p.length, ys.length, l[i].b, l[i].n⟩ : Q), g1, ?_, by omega, by rcases hg2 with h | h <;> omega, by omega, (hO1.slb.kept' hN3 (fun h => h)).kept' hF2 (by show ¬ g1 = g; omega), rfl, rfl⟩
    rw [List.getElem?_append_right (by omega), hql, Nat.sub_self]
    rfl
theorem CpI.done {w : World} {l : List Si} {g c : Nat} {wr : World} (h : CpI w l l.length g c wr) (hL : l.length ≤ 4000000000000) (hp : ∀ s ∈ l, s.p.length ≤ 140737488351232) : SqR (fun k => k < w.heap.size ∨ wr.heap.size ≤ k) (.slice (some ⟨g, 0, none⟩) l.length c) l wr := by
  obtain ⟨qs, hql, hOs, hel⟩ := h.row
  have hgl := hOs.lt
  have hb := h.base
  have hOs' := hOs
  obtain ⟨zs, e, _, z1, z2, _⟩ := hOs'
  injection e with _ _ e
  subst e
  refine ⟨_, _, rfl, by omega, z2, hL, fun _ => ⟨g, 0, by omega, rfl, fun i hi => ?_⟩⟩
  obtain ⟨q, gp, k1, k2, k3, k4, k5, k6, k7⟩ := hel i hi hi
  have k5' := k5
  obtain ⟨o, c, e, _, _, _⟩ := k5'
  injection e with e1 e2 e3
  have c0 := (hOs.cell i 0 q _ k1 rfl).1
  have c1 := (hOs.cell i 1 q _ k1 rfl).1
  have c2 := (hOs.cell i 2 q _ k1 rfl).1
  rw [Nat.mul_comm 3 i, k6] at c1
  rw [Nat.mul_comm 3 i, k7] at c2
  rw [Nat.mul_comm 3 i] at c0
  unfold Q.v at c0 k5
  rw [e2] at c0 k5
  exact ⟨q.a, q.c, by rw [Nat.zero_add]; exact c0, by rw [Nat.zero_add]; exact c1, by rw [Nat.zero_add]; exact c2, .inr ⟨gp, by omega, k5⟩, hp _ (List.getElem_mem hi)⟩
theorem step_append_ty {ops : Array Oper} {o : Oper} {a : Act} {w : World} {K : Act → World → Prop} {Q : Exit → Act → World → Prop} {E : Prop} (t : TypeId) (hg : o.guard = none) (s x : Operand) (hop : o.op = Op.call { callee := Callee.builtin Builtin.append, args := #[s, x], argTypes := #[t, t] })
    (vs vx : Value) (hs : a.eval s = vs) (hx : a.eval x = vx) (v' : Value) (W : World) (hrun : ∀ ty, (Builtin.append_ #[t, t] ty #[vs, vx]).run Try.prog w = .ok v' W) (hK : K (a.put o.dst v') W) :
    if Region.wanted o (yielded ops a.tmps) = true then Oper.wp Try.prog o a w K Q else E := by
  have hw : Region.wanted o (yielded ops a.tmps) = true := by simp [Region.wanted, hg]
  rw [if_pos hw]
  unfold Oper.wp
  simp [execOp, hop, resolve, invoke, builtin, hs, hx, hrun, Result.andThen]
  exact hK
set_option maxHeartbeats 16000000 in
set_option maxRecDepth 100000 in
theorem copies_any (w : World) (v : Value) (l : List Si) (hl : OldS w v l) (hp : ∀ s ∈ l, s.p.length ≤ 140737488351232) : Calls Try.prog 18 #[v] w fun e w' => ∃ g c, e = .returned (.slice (some ⟨g, 0, none⟩) l.length c) ∧ SqR (fun k => k < w.heap.size ∨ w'.heap.size ≤ k) (.slice (some ⟨g, 0, none⟩) l.length c) l w' ∧ Nw w w' := by
  obtain ⟨P, hP⟩ : ∃ P : Ending → World → Prop, P = fun e w' => ∃ g c, e = .returned (.slice (some ⟨g, 0, none⟩) l.length c) ∧ SqR (fun k => k < w.heap.size ∨ w'.heap.size ≤ k) (.slice (some ⟨g, 0, none⟩) l.length c) l w' ∧ Nw w w' := ⟨_, rfl⟩
  rw [← hP]
  have HP : Hid (P = fun e w' => ∃ g c, e = .returned (.slice (some ⟨g, 0, none⟩) l.length c) ∧ SqR (fun k => k < w.heap.size ∨ w'.heap.size ≤ k) (.slice (some ⟨g, 0, none⟩) l.length c) l w' ∧ Nw w w') := hP
  clear hP
  obtain ⟨a, c, rfl, hc, hc2, hL⟩ := hl.form
  have HL : Hid (OldS w (.slice a l.length c) l) := hl
  have HPp : Hid (∀ s ∈ l, s.p.length ≤ 140737488351232) := hp
  have HI0 : Hid (CpI w l 0 w.heap.size 0 (w.alloc (.cells #[] 36))) := CpI.start w l
  have HE : Hid (∀ g c wr, CpI w l l.length g c wr → P (.returned (.slice (some ⟨g, 0, none⟩) l.length c)) wr) := fun g c wr h => by
    rw [HP.out]
    exact ⟨g, c, rfl, h.done hL HPp.out, h.nw⟩
  clear hl hp HP
  generalize hln : l.length = L at *
  have hln' : Hid (l.length = L) := hln
  clear hln
  go_enter Try.func18, Try.ntmps18
  go_wp2
  go_loopg [3, 4] L (fun kx r i wr => ∃ (I g c : Nat), I ≤ L ∧ L - I ≤ kx ∧ r = .slice (some ⟨g, 0, none⟩) I c ∧ i = .int .i64 I ∧ Hid (CpI w l I g c wr))
  case atStart => exact ⟨0, _, _, by omega, by omega, rfl, rfl, HI0⟩
  case round =>
    obtain ⟨I, gr, cr, hI, hkx, rfl, rfl, HI⟩ := hrel
    clear HI0
    have hN := HI.out.nw
    by_cases hlt : I < L
    · have hlt' : I < l.length := by rw [hln'.out]; omega
      obtain ⟨g, o, pa, pc, hgX, rfl, x0, x1, x2, hpS, hpl⟩ := (HL.out.nw hN).at I hlt'
      obtain ⟨a1, c1, W1, g', c', W2, HAP1, HAP2, hN1, hF2, hC'⟩ := HI.out.step hlt' (by rw [hln'.out]; exact hL) pa pc hpS hpl
      have HI' : Hid (CpI w l (I + 1) g' c' W2) := hC'
      have hgr : ¬ g = gr := by have := HI.out.base; omega
      have hgw : ¬ g = wr.heap.size := by have := World.new_ne wr _ x0; simp at this; omega
      have d0 : Nw wr (wr.drew.alloc (.cells #[] 5)) := (Fr.refl _ _).drew.alloc _
      have d1 : Nw wr (W1.alloc (.cells #[.slice a1 l[I].p.length c1, .int .i64 l[I].b, .int .i64 l[I].n] 36)) := hN1.alloc _
      have y0 := hN1.cell x0
      have y1 := hN1.cell x1
      have y2 := hN1.cell x2
      have z0 := hF2.cellv x0 hgr
      have z1 := hF2.cellv x1 hgr
      have z2 := hF2.cellv x2 hgr
      have t0 := d0.cell x0
      have t1 := d0.cell x1
      have t2 := d0.cell x2
      have s0 := d1.cell x0
      have s1 := d1.cell x1
      have s2 := d1.cell x2
      have hz : (I : Int) < (L : Int) := by omega
      clear HI HL HPp HE hpS hC' hF2 hN1 d0 d1
      generalize l[I].p.length = pn at *
      generalize l[I].b = zb at *
      generalize l[I].n = zn at *
      go_wp2_with fail
      go_region_held3 (fun w' => w'.cell? ⟨g, o + I * 3, none⟩ = some (.slice pa pn pc) ∧ w'.cell? ⟨g, o + I * 3 + 1, none⟩ = some (.int .i64 zb) ∧ w'.cell? ⟨g, o + I * 3 + 2, none⟩ = some (.int .i64 zn)) (first | exact ⟨x0, x1, x2⟩ | exact ⟨t0, t1, t2⟩ | exact ⟨y0, y1, y2⟩ | exact ⟨s0, s1, s2⟩ | exact ⟨z0, z1, z2⟩ | assumption)
        (first
          | (refine step_append_ty 22 rfl _ _ rfl (.slice (some ⟨wr.heap.size, 0, none⟩) 0 0) (.slice pa pn pc) (by simp [Act.eval]) (by simp [Act.eval]) _ _ (HAP1.out) ?_)
          | (refine step_append_ty 31 rfl _ _ rfl (.slice (some ⟨gr, 0, none⟩) I cr) (.slice (some ⟨W1.heap.size, 0, none⟩) 1 1) (by simp [Act.eval]) (by simp [Act.eval]) _ _ (HAP2.out) ?_))
      all_goals go_wp2_with fail
      all_goals go_roundg (L - (I + 1))
      all_goals (first | omega | exact ⟨I + 1, _, _, by omega, by omega, rfl, by first | rfl | (congr 1), HI'⟩)
    · obtain rfl : I = L := by omega
      have HF' : Hid (P (.returned (.slice (some ⟨gr, 0, none⟩) I cr)) wr) := HE.out _ _ _ HI.out
      have hz : ¬ (I : Int) < (I : Int) := by omega
      clear HI HL HPp HE hlt
      go_wp2
      exact HF'.out
end Go.Proofs.Ytpnacppmdlnjlaa
