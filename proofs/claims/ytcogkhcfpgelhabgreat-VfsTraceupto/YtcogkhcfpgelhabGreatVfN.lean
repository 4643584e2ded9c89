import Derived.Test.YtcogkhcfpgelhabGreatVfL
namespace Go.Proofs.YtcogkhcfpgelhabGreat
open Go.RowKit
set_option linter.unusedVariables false
set_option maxRecDepth 100000
variable {fb mb : Nat} {ot : Option Nat} {L : Int → Lay} {h : Hx} {q : Int → Option Pn} {cnt : Nat} {T : List Ac} {w w' : World} {X : Nat → Prop}
def delV (tys : Array TypeId) (ty : TypeId) (args : Array Value) : Sem Value := Builtin.delete_ tys ty args
theorem delV_fold (tys : Array TypeId) (ty : TypeId) (args : Array Value) : Builtin.delete_ tys ty args = delV tys ty args := rfl
/-- An entry fewer. -/
def delEnt (p : Pn) (s : Tx) : Pn := { p with ents := fun x => if x = s then none else p.ents x, ne := p.ne - 1 }
/-- Named once less. -/
def unnam (p : Pn) : Pn := { p with links := p.links - 1 }
/-- What leave leaves. -/
def leaQ (q : Int → Option Pn) (d : Int) (s : Tx) (n : Int) (pn : Pn) (k : Int) : Option Pn := if k = n then (if pn.links = 1 then none else some (unnam pn)) else if k = d then (q d).map (delEnt · s) else q k
def leaH (h : Hx) (pn : Pn) : Hx := if pn.links = 1 then { h with held := h.held - (pn.data.length : Int) } else h
def leaN (cnt : Nat) (pn : Pn) : Nat := if pn.links = 1 then cnt - 1 else cnt
theorem ent_del (H : FsH fb mb ot L h q cnt T w) {d n : Int} {s : Tx} (hs : s.length ≤ 140737488351232) {pd : Pn} (hd : q d = some pd) (hk : pd.kind = 1) (hf : pd.ents s = some n) :
    ∃ W, (∀ ty, (delV #[89, 9] ty #[.map (some (L d).eb), .string (mk s)]).run Tryz.prog w = .ok (.tuple #[]) W) ∧ FsH fb mb ot L h (fun k => if k = d then some (delEnt pd s) else q k) cnt T W ∧ Fr (fun k => k = (L d).eb) w W := by
  obtain ⟨dv, ev, k1, k2, k3, k4⟩ := (H.nd d pd hd).blk
  obtain ⟨W, r1, r2, r3⟩ := (k3 hk).2.del meOk s hs
  refine ⟨W, r1, H.turnS hd rfl r3 (fun k e => .inr (.inl ⟨hk, e⟩)) ⟨dv, ev, ?_, ?_, fun _ => ⟨(k3 hk).1, ?_⟩, fun hn => absurd hk hn⟩, r3⟩
  · exact r3.heap k1 (fun e => by have := (k3 hk).2.tg; rw [← e, tg_cells k1] at this; cases this)
  · exact k2.kept r3 (fun g hg e => by rw [hg] at k2; have := k2.tg; rw [e, (k3 hk).2.tg] at this; cases this)
  · have := r2 (delEnt pd s).ents (fun x _ => rfl)
    rw [hf] at this
    exact this
section
attribute [local go_sem ↓] delV_fold
set_option maxHeartbeats 8000000 in
theorem leave_any (H : FsH fb mb ot L h q cnt T w) (d n : Int) (hd64 : I64 d) (hn64 : I64 n) (s : Tx) (hs : s.length ≤ 140737488351232) {pd pn : Pn} (hd : q d = some pd) (hk : pd.kind = 1) (hf : pd.ents s = some n) (hn : q n = some pn) (hdn : d ≠ n) (hl : 1 ≤ pn.links ∧ pn.links ≤ 1000000000000000) (hh : 0 ≤ h.held ∧ h.held ≤ 1000000000000000 ∧ pn.data.length ≤ 1000000000000000) :
    Calls Tryz.prog 77 #[.pointer (some ⟨fb, 0, none⟩), .agg #[.int .i64 d, .string (mk s)]] w fun e w' => (∃ r, e = .returned r) ∧ FsH fb mb ot L (leaH h pn) (leaQ q d s n pn) (leaN cnt pn) T w' ∧ Fr (fun k => k = (L d).eb ∨ k = (L n).ib ∨ k = fb ∨ k = mb) w w' := by
  obtain ⟨P, hP⟩ : ∃ P : Ending → World → Prop, P = fun e w' => (∃ r, e = .returned r) ∧ FsH fb mb ot L (leaH h pn) (leaQ q d s n pn) (leaN cnt pn) T w' ∧ Fr (fun k => k = (L d).eb ∨ k = (L n).ib ∨ k = fb ∨ k = mb) w w' := ⟨_, rfl⟩
  rw [← hP]
  obtain ⟨V, hV⟩ : ∃ V, V = w.alloc (.cells #[.int .i64 d, .string (mk s)] 110) := ⟨_, rfl⟩
  have hN : Nw w V := by rw [hV]; exact (Fr.refl _ _).alloc _
  have HV := H.nw hN
  have b0 : V.cell? ⟨w.heap.size, 0, none⟩ = some (.int .i64 d) := by rw [hV]; exact (rc (nh w _) 0 _ rfl).1
  have b1 : V.cell? ⟨w.heap.size, 1, none⟩ = some (.string (mk s)) := by rw [hV]; exact (rc (nh w _) 1 _ rfl).1
  have HA : Hid (Calls Tryz.prog 55 #[.pointer (some ⟨fb, 0, none⟩), .agg #[.int .i64 d, .string (mk s)]] V fun e w2 => e = .returned (.int .i64 n) ∧ Hid (Nw V w2)) := by
    have := at_any HV d hd64 s hs hd hk
    rw [hf] at this
    exact this
  have hdE := fun W (hW : Nw V W) => ent_del (n := n) (HV.nw hW) hs hd hk hf
  have hib : (L n).ib < w.heap.size := H.lt _ (.inr (.inr (.inr ⟨n, pn, hn, .inl rfl⟩)))
  have hebl : (L d).eb < w.heap.size := H.lt _ (.inr (.inr (.inr ⟨d, pd, hd, .inr (.inl ⟨hk, rfl⟩)⟩)))
  have hfl := H.cs.lt
  have hnb : ¬ (L n).ib = w.heap.size := by omega
  have hfeb : ¬ fb = (L d).eb := fun e => by have := H.teb hd hk; rw [← e, H.tfb] at this; cases this
  have hnfb : ¬ (L n).ib = fb := fun e => by have := H.tib hn; rw [e, H.tfb] at this; cases this
  have hnW : (if n = d then some (delEnt pd s) else q n) = some pn := by rw [if_neg (fun e => hdn e.symm)]; exact hn
  have hw1 : IntKind.i64.wrap (pn.links - 1) = pn.links - 1 := by rw [IntKind.wrap_i64]; omega
  have HST : Hid (∀ w2, Nw V w2 → w2.cell? ⟨fb, 0, none⟩ = some (.map (some mb)) ∧ (Instr.lookup 80 (.map (some mb)) (.int .i64 d) false).run Tryz.prog w2.drew = .ok (.pointer (some ⟨(L d).ib, 0, none⟩)) w2.drew ∧ w2.cell? ⟨(L d).ib, 8, none⟩ = some (.map (some (L d).eb)) ∧ w2.cell? ⟨w.heap.size, 0, none⟩ = some (.int .i64 d) ∧ w2.cell? ⟨w.heap.size, 1, none⟩ = some (.string (mk s)) ∧
      ∃ W, (∀ ty, (delV #[89, 9] ty #[.map (some (L d).eb), .string (mk s)]).run Tryz.prog w2.drew = .ok (.tuple #[]) W) ∧ W.cell? ⟨fb, 0, none⟩ = some (.map (some mb)) ∧ (Instr.lookup 80 (.map (some mb)) (.int .i64 n) false).run Tryz.prog W = .ok (.pointer (some ⟨(L n).ib, 0, none⟩)) W ∧ W.cell? ⟨(L n).ib, 9, none⟩ = some (.int .i64 pn.links) ∧ W.frozen? ⟨(L n).ib, 9, none⟩ = false ∧
      ∃ W2, W.setCell ⟨(L n).ib, 9, none⟩ (.int .i64 (pn.links - 1)) = W2 ∧ W2.cell? ⟨(L n).ib, 9, none⟩ = some (.int .i64 (pn.links - 1)) ∧ (pn.links ≠ 1 → Hid (∀ r, P (.returned r) W2)) ∧
      (pn.links = 1 → ∃ da dc, W2.cell? ⟨(L n).ib, 6, none⟩ = some (.slice da pn.data.length dc) ∧ W2.cell? ⟨fb, 3, none⟩ = some (.int .i64 h.held) ∧ W2.frozen? ⟨fb, 3, none⟩ = false ∧ ∃ W5, W2.drew.setCell ⟨fb, 3, none⟩ (.int .i64 (h.held - (pn.data.length : Int))) = W5 ∧ W5.cell? ⟨fb, 0, none⟩ = some (.map (some mb)) ∧ ∃ W6, (∀ ty, (delV #[80, 3] ty #[.map (some mb), .int .i64 n]).run Tryz.prog W5 = .ok (.tuple #[]) W6) ∧ Hid (∀ r, P (.returned r) W6))) := fun w2 h2 => by
    have H2 := HV.nw h2
    obtain ⟨dv, hC⟩ := H2.dirC hd hk
    obtain ⟨W, d1, d2, d3⟩ := hdE w2.drew (h2.drew)
    obtain ⟨dv2, ev2, nv1, nv2, _, _⟩ := (d2.nd n pn hnW).blk
    have hD := ndc_of nv1
    refine ⟨H2.cs.c0, (H2.nw ((Fr.refl _ _).drew)).look_some hd64 hd, hC.c8, h2.cell b0, h2.cell b1, W, d1, d2.cs.c0, d2.look_some (k := n) hn64 hnW, hD.c9, hD.f9, _, rfl, ?_, ?_, ?_⟩
    · exact (rc (rset nv1 9 _) 9 _ rfl).1
    · intro hl1 r
      rw [hP]
      have f2 : Fr (fun k => k = (L n).ib) W (W.setCell ⟨(L n).ib, 9, none⟩ (.int .i64 (pn.links - 1))) := (Fr.refl (fun k => k = (L n).ib) W).setCell ⟨(L n).ib, 9, none⟩ _ (.inl rfl)
      have heq : leaQ q d s n pn = fun k => if k = n then some (unnam pn) else (if k = d then some (delEnt pd s) else q k) := by
        funext k
        unfold leaQ
        rw [if_neg hl1, hd]; rfl
      refine ⟨⟨r, rfl⟩, ?_, ?_⟩
      · rw [heq]
        have e1 : leaH h pn = h := by unfold leaH; rw [if_neg hl1]
        have e2 : leaN cnt pn = cnt := by unfold leaN; rw [if_neg hl1]
        rw [e1, e2]
        refine d2.turnS hnW rfl f2 (fun k e => .inl e) ((d2.nd n pn hnW).re f2 rfl rfl rfl rfl (fun dv ev hh => ?_))
        rw [rset hh 9 (.int .i64 (pn.links - 1))]
        simp [ndC, unnam]
      · exact (((hN.any.trans h2.any).trans (Fr.refl _ _).drew).trans (d3.mono (fun i e => .inl (.inl e)))).trans (f2.mono (fun i e => .inl (.inr (.inl e))))
    · intro hl1
      have f2 : Fr (fun k => k = (L n).ib) W (W.setCell ⟨(L n).ib, 9, none⟩ (.int .i64 (pn.links - 1))) := (Fr.refl (fun k => k = (L n).ib) W).setCell ⟨(L n).ib, 9, none⟩ _ (.inl rfl)
      have H3 : FsH fb mb ot L h (fun k => if k = n then some (unnam pn) else (if k = d then some (delEnt pd s) else q k)) cnt T (W.setCell ⟨(L n).ib, 9, none⟩ (.int .i64 (pn.links - 1))) := by
        refine d2.turnS hnW rfl f2 (fun k e => .inl e) ((d2.nd n pn hnW).re f2 rfl rfl rfl rfl (fun dv ev hh => ?_))
        rw [rset hh 9 (.int .i64 (pn.links - 1))]
        simp [ndC, unnam]
      generalize W.setCell ⟨(L n).ib, 9, none⟩ (.int .i64 (pn.links - 1)) = W2 at *
      obtain ⟨dv3, ev3, m1, m2, _, _⟩ := (H3.nd n (unnam pn) (by simp)).blk
      obtain ⟨da, dc, rfl, _, _⟩ := m2.form
      have H4 := H3.nw ((Fr.refl _ _).drew)
      obtain ⟨tv, v1, v2⟩ := H4.blk
      have f1 : Fr (fun k => k = fb) W2.drew (W2.drew.setCell ⟨fb, 3, none⟩ (.int .i64 (h.held - (pn.data.length : Int)))) := (Fr.refl (fun k => k = fb) _).setCell ⟨fb, 3, none⟩ _ (.inl rfl)
      have hfo : ot ≠ some fb := fun e => by
        have t1 := H4.tot fb e
        rw [H4.tfb] at t1; cases t1
      have H5 : FsH fb mb ot L { h with held := h.held - (pn.data.length : Int) } (fun k => if k = n then some (unnam pn) else (if k = d then some (delEnt pd s) else q k)) cnt T (W2.drew.setCell ⟨fb, 3, none⟩ (.int .i64 (h.held - (pn.data.length : Int)))) :=
        H4.head f1 (fun k e => .inl e) (.inl rfl) (tv := tv) (rset v1 3 _) (v2.kept f1 (fun g hg e => hfo (by rw [hg, e])))
      refine ⟨da, dc, (ndc_of m1).c6, H3.cs.c3, H3.cs.f3, _, rfl, H5.cs.c0, ?_⟩
      generalize W2.drew.setCell ⟨fb, 3, none⟩ (.int .i64 (h.held - (pn.data.length : Int))) = W5 at *
      obtain ⟨W6, r1, r2, r3⟩ := H5.mp.del miOk n hn64
      refine ⟨W6, r1, fun r => ?_⟩
      rw [hP]
      have H6 := H5.less n r3 (cnt' := cnt - 1) (fun m hm => by
        have := r2 m (fun x _ => hm x)
        simp only [if_pos] at this
        exact this)
      refine ⟨⟨r, rfl⟩, ?_, ?_⟩
      · have e1 : leaH h pn = { h with held := h.held - (pn.data.length : Int) } := by unfold leaH; rw [if_pos hl1]
        have e2 : leaN cnt pn = cnt - 1 := by unfold leaN; rw [if_pos hl1]
        rw [e1, e2]
        refine H6.congr ?_
        funext k
        unfold leaQ
        by_cases hkn : k = n
        · rw [if_pos hkn, if_pos hkn, if_pos hl1]
        · rw [if_neg hkn, if_neg hkn, if_neg hkn, hd]; rfl
      · exact ((((((hN.any.trans h2.any).trans (Fr.refl _ _).drew).trans (d3.mono (fun i e => .inl (.inl e)))).trans (f2.mono (fun i e => .inl (.inr (.inl e))))).trans (Fr.refl _ _).drew).trans (f1.mono (fun i e => .inl (.inr (.inr (.inl e)))))).trans (r3.mono (fun i e => .inl (.inr (.inr (.inr e)))))
  clear H HV hdE hnW hn hd hk hf hP
  generalize (L d).ib = ib at *
  generalize (L d).eb = eb at *
  generalize (L n).ib = nb at *
  generalize mk s = ss at *
  generalize pn.data.length = dl at *
  have hw2 : IntKind.i64.wrap (h.held - (dl : Int)) = h.held - (dl : Int) := by rw [IntKind.wrap_i64]; omega
  go_enter Tryz.func77, Tryz.ntmps77
  go_upto_region 1 with fail
  rw [← hV]
  clear hV
  go_upto_region 2 with (first | (go_at_call 55; with_reducible refine HA.out.mono ?_; rintro e w2 ⟨rfl, H2⟩))
  obtain ⟨c0, l1, x8, b02, b12, W, d1, c0W, l2, y9, g9, W2, hW2, z9, HNo, HYes⟩ := HST.out w2 H2.out
  have HNo := tHid HNo
  have HYes := tHid HYes
  clear HST HA b0 b1
  by_cases hl1 : pn.links = 1
  · obtain ⟨da, dc, x6, x3, f3, W5, hW5, c05, W6, d6, HF⟩ := HYes.out hl1
    clear HNo HYes
    rw [hl1] at hW2 z9 y9
    rw [show (1 : Int) - 1 = 0 from rfl] at hW2 z9
    clear hl1 hw1 hl
    go_region
    go_wp2_with fail
    go_region
    go_wp2_with fail
    first | exact HF.out _ | (go_end0; exact HF.out _)
  · have HF := HNo.out hl1
    have hlb : (pn.links - 1 == 0) = false := by rw [beq_eq_false_iff_ne]; omega
    clear HNo HYes
    generalize pn.links = lk at *
    go_region
    go_wp2_with fail
    first | exact HF.out _ | (go_end0; exact HF.out _)
end
end Go.Proofs.YtcogkhcfpgelhabGreat
