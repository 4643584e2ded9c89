import Derived.Test.YtcogkhcfpgelhabGreatVfG
namespace Go.Proofs.YtcogkhcfpgelhabGreat
open Go.RowKit
set_option linter.unusedVariables false
set_option maxRecDepth 100000
variable {fb mb : Nat} {ot : Option Nat} {L : Int → Lay} {h : Hx} {q : Int → Option Pn} {cnt : Nat} {T : List Ac} {w w' : World} {X : Nat → Prop}
theorem FsH.turnS (H : FsH fb mb ot L h q cnt T w) {n : Int} {p p' : Pn} (hp : q n = some p) (hk : p'.kind = p.kind) (f : Fr X w w') (hX : ∀ k, X k → k = (L n).ib ∨ p.kind = 1 ∧ k = (L n).eb ∨ (L n).od = some k)
    (hN : NdH (L n) p' w') : FsH fb mb ot L h (fun k => if k = n then some p' else q k) cnt T w' := by
  have := H.turn hp hk (od' := (L n).od) (fun g hg => .inl hg) f hX hN
  have e : (fun k => if k = n then (⟨(L n).ib, (L n).eb, (L n).od⟩ : Lay) else L k) = L := by
    funext k
    by_cases hk : k = n
    · rw [if_pos hk, hk]
    · rw [if_neg hk]
  rw [e] at this
  exact this
/-- An inode's own cells turned. -/
theorem NdH.re {y : Lay} {p p' : Pn} (hN : NdH y p w) (f : Fr (fun k => k = y.ib) w w') (e1 : p'.data = p.data) (e2 : p'.ents = p.ents) (e3 : p'.ne = p.ne) (e4 : p'.kind = p.kind)
    (hh : ∀ dv ev, w.heap[y.ib]? = some (.cells (ndC p dv ev) 91) → w'.heap[y.ib]? = some (.cells (ndC p' dv ev) 91)) : NdH y p' w' := by
  obtain ⟨dv, ev, k1, k2, k3, k4⟩ := hN.blk
  have t1 := tg_cells k1
  refine ⟨dv, ev, hh dv ev k1, ?_, fun hk => ?_, fun hk => ?_⟩
  · rw [e1]
    refine k2.kept f (fun g hg e => ?_)
    rw [hg] at k2
    have := k2.tg
    rw [e, t1] at this; cases this
  · rw [e4] at hk
    rw [e2, e3]
    refine ⟨(k3 hk).1, (k3 hk).2.kept f (fun e => ?_)⟩
    have := (k3 hk).2.tg
    rw [e, t1] at this; cases this
  · rw [e4] at hk
    rw [e2, e3]
    exact k4 hk
/-- An entry more. -/
def putEnt (p : Pn) (s : Tx) (n : Int) : Pn := { p with ents := fun x => if x = s then some n else p.ents x, ne := p.ne + 1 }
/-- Named once more. -/
def named1 (p : Pn) (d : Int) : Pn := { p with links := p.links + 1, up := if p.kind = 1 then d else p.up }
def entQ (q : Int → Option Pn) (d : Int) (s : Tx) (n : Int) (k : Int) : Option Pn := if k = n then (q n).map (named1 · d) else if k = d then (q d).map (putEnt · s n) else q k
theorem ent_store (H : FsH fb mb ot L h q cnt T w) {d n : Int} {s : Tx} (hs : s.length ≤ 140737488351232) {pd : Pn} (hd : q d = some pd) (hk : pd.kind = 1) (hf : pd.ents s = none) (hne : pd.ne ≤ 1000000000000000) :
    ∃ W, (Instr.mapUpdate 89 (.map (some (L d).eb)) (.string (mk s)) (.int .i64 n)).run Tryz.prog w = .ok () W ∧ FsH fb mb ot L h (fun k => if k = d then some (putEnt pd s n) else q k) cnt T W ∧ Fr (fun k => k = (L d).eb) w W := by
  obtain ⟨dv, ev, k1, k2, k3, k4⟩ := (H.nd d pd hd).blk
  obtain ⟨W, r1, r2, r3⟩ := (k3 hk).2.store meOk s hs n trivial hne
  refine ⟨W, r1, H.turnS hd rfl r3 (fun k e => .inr (.inl ⟨hk, e⟩)) ⟨dv, ev, ?_, ?_, fun _ => ⟨(k3 hk).1, ?_⟩, fun hn => absurd hk hn⟩, r3⟩
  · exact r3.heap k1 (fun e => by have := (k3 hk).2.tg; rw [← e, tg_cells k1] at this; cases this)
  · exact k2.kept r3 (fun g hg e => by rw [hg] at k2; have := k2.tg; rw [e, (k3 hk).2.tg] at this; cases this)
  · have := r2 (putEnt pd s n).ents (fun x _ => rfl)
    rw [hf] at this
    exact this
set_option maxHeartbeats 4000000 in
theorem enter_any (H : FsH fb mb ot L h q cnt T w) (d n : Int) (hd64 : I64 d) (hn64 : I64 n) (s : Tx) (hs : s.length ≤ 140737488351232) {pd pn : Pn} (hd : q d = some pd) (hk : pd.kind = 1) (hf : pd.ents s = none) (hne : pd.ne ≤ 1000000000000000) (hn : q n = some pn) (hdn : d ≠ n) (hl : 0 ≤ pn.links ∧ pn.links ≤ 1000000000000000) :
    Calls Tryz.prog 56 #[.pointer (some ⟨fb, 0, none⟩), .agg #[.int .i64 d, .string (mk s)], .int .i64 n] w fun e w' => (∃ r, e = .returned r) ∧ FsH fb mb ot L h (entQ q d s n) cnt T w' ∧ Fr (fun k => k = (L d).eb ∨ k = (L n).ib) w w' := by
  obtain ⟨P, hP⟩ : ∃ P : Ending → World → Prop, P = fun e w' => (∃ r, e = .returned r) ∧ FsH fb mb ot L h (entQ q d s n) cnt T w' ∧ Fr (fun k => k = (L d).eb ∨ k = (L n).ib) w w' := ⟨_, rfl⟩
  rw [← hP]
  obtain ⟨V, hV⟩ : ∃ V, V = w.alloc (.cells #[.int .i64 d, .string (mk s)] 110) := ⟨_, rfl⟩
  have hN : Nw w V := by rw [hV]; exact (Fr.refl _ _).alloc _
  have HV := H.nw hN
  have c0 := HV.cs.c0
  have hfl := H.cs.lt
  obtain ⟨dv, hC⟩ := HV.dirC hd hk
  have x8 := hC.c8
  have hl1 : (Instr.lookup 80 (.map (some mb)) (.int .i64 d) false).run Tryz.prog V.drew = .ok (.pointer (some ⟨(L d).ib, 0, none⟩)) V.drew := (HV.nw ((Fr.refl _ _).drew)).look_some hd64 hd
  have b0 : V.cell? ⟨w.heap.size, 0, none⟩ = some (.int .i64 d) := by rw [hV]; exact (rc (nh w _) 0 _ rfl).1
  have b1 : V.cell? ⟨w.heap.size, 1, none⟩ = some (.string (mk s)) := by rw [hV]; exact (rc (nh w _) 1 _ rfl).1
  obtain ⟨W, hmu, HW, hfW⟩ := ent_store (n := n) (HV.nw ((Fr.refl _ _).drew)) hs hd hk hf hne
  have hnW : (if n = d then some (putEnt pd s n) else q n) = some pn := by rw [if_neg (fun e => hdn e.symm)]; exact hn
  have d0 := HW.cs.c0
  have hl2 := HW.look_some (k := n) hn64 hnW
  obtain ⟨dv2, ev2, nv1, _, _, _⟩ := (HW.nd n pn hnW).blk
  have hD := ndc_of nv1
  have y0 := hD.c0
  have y9 := hD.c9
  have g9 := hD.f9
  have b2 : W.cell? ⟨w.heap.size, 0, none⟩ = some (.int .i64 d) := by
    refine hfW.cellv (v := .int .i64 d) (p := ⟨w.heap.size, 0, none⟩) b0 (fun e => ?_)
    have e : w.heap.size = (L d).eb := e
    have := H.lt _ (.inr (.inr (.inr ⟨d, pd, hd, .inr (.inl ⟨hk, rfl⟩)⟩)))
    omega
  have hib : (L n).ib < w.heap.size := H.lt _ (.inr (.inr (.inr ⟨n, pn, hn, .inl rfl⟩)))
  have hnb : ¬ (L n).ib = w.heap.size := by omega
  have hnb2 : ¬ w.heap.size = (L n).ib := by omega
  have hfW0 : Fr (fun k => k = (L d).eb ∨ k = (L n).ib) w W := (hN.any.trans (Fr.refl _ _).drew).trans (hfW.mono (fun i e => .inl (.inl e)))
  obtain ⟨W2, hW2⟩ : ∃ W2, W2 = W.setCell ⟨(L n).ib, 9, none⟩ (.int .i64 (pn.links + 1)) := ⟨_, rfl⟩
  have heq : entQ q d s n = fun k => if k = n then some (named1 pn d) else (if k = d then some (putEnt pd s n) else q k) := by
    funext k
    unfold entQ
    rw [hn, hd]; rfl
  have hw1 : IntKind.i64.wrap (pn.links + 1) = pn.links + 1 := by rw [IntKind.wrap_i64]; omega
  by_cases hk1 : pn.kind = 1
  · have ga : W2.frozen? ⟨(L n).ib, 10, none⟩ = false := by rw [hW2]; exact (rc (rset nv1 9 _) 10 _ rfl).2
    have ya : W2.cell? ⟨(L n).ib, 10, none⟩ = some (.int .i64 pn.up) := by rw [hW2]; exact (rc (rset nv1 9 _) 10 _ rfl).1
    have yk : W2.cell? ⟨(L n).ib, 0, none⟩ = some (.int .i64 1) := by rw [hW2, ← hk1]; exact (rc (rset nv1 9 _) 0 _ rfl).1
    have b3 : W2.cell? ⟨w.heap.size, 0, none⟩ = some (.int .i64 d) := by
      rw [hW2]
      exact Fr.cellv ((Fr.refl (fun k => k = (L n).ib) W).setCell ⟨(L n).ib, 9, none⟩ _ (.inl rfl)) b2 (fun e => hnb2 e)
    have HF : Hid (∀ r, P (.returned r) (W2.setCell ⟨(L n).ib, 10, none⟩ (.int .i64 d))) := fun r => by
      rw [hP, heq]
      have f2 : Fr (fun k => k = (L n).ib) W (W2.setCell ⟨(L n).ib, 10, none⟩ (.int .i64 d)) := by
        rw [hW2]
        exact ((Fr.refl (fun k => k = (L n).ib) W).setCell ⟨(L n).ib, 9, none⟩ _ (.inl rfl)).setCell ⟨(L n).ib, 10, none⟩ _ (.inl rfl)
      refine ⟨⟨r, rfl⟩, HW.turnS hnW rfl f2 (fun k e => .inl e) ((HW.nd n pn hnW).re f2 rfl rfl rfl rfl (fun dv ev hh => ?_)), hfW0.trans (f2.mono (fun i e => .inl (.inr e)))⟩
      have := rset (rset hh 9 (.int .i64 (pn.links + 1))) 10 (.int .i64 d)
      rw [← hW2] at this
      rw [this]
      simp [ndC, named1, hk1]
    clear H HV hC HW hD nv1 hfW hfW0 hP heq hn hd hnW hk hf
    rw [hk1] at y0
    clear hk1
    generalize (L d).ib = ib at *
    generalize (L d).eb = eb at *
    generalize (L n).ib = nb at *
    generalize mk s = ss at *
    generalize pn.links = lk at *
    generalize pn.up = up at *
    go_enter Tryz.func56, Tryz.ntmps56
    go_upto_region 1 with fail
    rw [← hV]
    clear hV
    go_region
    go_upto_region 4 with fail
    rw [← hW2]
    clear hW2
    go_wp2_with fail
    first | exact HF.out _ | (go_end0; exact HF.out _)
  · have hkb : (pn.kind == 1) = false := by rw [beq_eq_false_iff_ne]; exact hk1
    have yk : W2.cell? ⟨(L n).ib, 0, none⟩ = some (.int .i64 pn.kind) := by rw [hW2]; exact (rc (rset nv1 9 _) 0 _ rfl).1
    have HF : Hid (∀ r, P (.returned r) W2) := fun r => by
      rw [hP, heq]
      have f2 : Fr (fun k => k = (L n).ib) W W2 := by
        rw [hW2]
        exact (Fr.refl (fun k => k = (L n).ib) W).setCell ⟨(L n).ib, 9, none⟩ _ (.inl rfl)
      refine ⟨⟨r, rfl⟩, HW.turnS hnW rfl f2 (fun k e => .inl e) ((HW.nd n pn hnW).re f2 rfl rfl rfl rfl (fun dv ev hh => ?_)), hfW0.trans (f2.mono (fun i e => .inl (.inr e)))⟩
      have := rset hh 9 (.int .i64 (pn.links + 1))
      rw [← hW2] at this
      rw [this]
      simp [ndC, named1, hk1]
    clear H HV hC HW hD nv1 hfW hfW0 hP heq hn hd hnW hk hf
    generalize pn.kind = kd at *
    generalize (L d).ib = ib at *
    generalize (L d).eb = eb at *
    generalize (L n).ib = nb at *
    generalize mk s = ss at *
    generalize pn.links = lk at *
    go_enter Tryz.func56, Tryz.ntmps56
    go_upto_region 1 with fail
    rw [← hV]
    clear hV
    go_region
    go_upto_region 4 with fail
    rw [← hW2]
    clear hW2
    go_wp2_with fail
    first | exact HF.out _ | (go_end0; exact HF.out _)
end Go.Proofs.YtcogkhcfpgelhabGreat
