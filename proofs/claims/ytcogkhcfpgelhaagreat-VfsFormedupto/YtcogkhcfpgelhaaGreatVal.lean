import Derived.Test.YtcogkhcfpgelhaaGreatVak
import Derived.BigRegion
import Derived.Handy
namespace Go.Proofs.YtcogkhcfpgelhaaGreat
open Go.RowKit
set_option linter.unusedVariables false
set_option maxRecDepth 100000
variable {fb mb : Nat} {ot : Option Nat} {L : Int → Lay} {h : Hx} {q : Int → Option Pn} {cnt : Nat} {T : List Ac} {w w' : World} {X : Nat → Prop}
def appV (tys : Array TypeId) (ty : TypeId) (args : Array Value) : Sem Value := Builtin.append_ tys ty args
theorem appV_fold (tys : Array TypeId) (ty : TypeId) (args : Array Value) : Builtin.append_ tys ty args = appV tys ty args := rfl
theorem rset {w : World} {rb : Nat} {a : Array Value} {T : Nat} (h : w.heap[rb]? = some (.cells a T)) (j : Nat) (v : Value) : (w.setCell ⟨rb, j, none⟩ v).heap[rb]? = some (.cells (a.setIfInBounds j v) T) := by
  simp [World.setCell, Array.getElem?_modify, h]
abbrev acC (x : Ac) : Array Value := #[.int .i64 x.op, .int .i64 x.dir, .string (mk x.name), .int .i64 x.node, .int .i64 x.too, .string (mk x.other), .int .i64 x.pl, .int .i64 x.n]
/-- A call that is done, put behind the trace. -/
theorem FsH.push (H : FsH fb mb ot L h q cnt T w) (hT : T.length ≤ 2000000000000) (x : Ac) : ∃ a c, w.cell? ⟨fb, 5, none⟩ = some (.slice a T.length c) ∧ T.length ≤ c ∧ c < 9223372036854775808 ∧ ∃ a' c' W, (∀ ty, (appV #[68, 68] ty #[.slice a T.length c, .slice (some ⟨w.heap.size, 0, none⟩) 1 1]).run Tryz.prog (w.alloc (.cells (acC x) 129)) = .ok (.slice a' (T.length + 1) c') W) ∧ W.frozen? ⟨fb, 5, none⟩ = false ∧ (∃ u, W.cell? ⟨fb, 5, none⟩ = some u) ∧ ∃ ot', FsH fb mb ot' L h q cnt (T ++ [x]) (W.setCell ⟨fb, 5, none⟩ (.slice a' (T.length + 1) c')) ∧ Fr (fun k => k = fb ∨ ot = some k) w (W.setCell ⟨fb, 5, none⟩ (.slice a' (T.length + 1) c')) ∧ (ot' = ot ∨ ∃ g, ot' = some g ∧ w.heap.size ≤ g) := by
  obtain ⟨tv, h1, h2⟩ := H.blk
  obtain ⟨a, c, rfl, hc1, hc2⟩ := h2.form
  have hN : Nw w (w.alloc (.cells (RAc.enc x).toArray 129)) := (Fr.refl _ _).alloc _
  have hb := OwR.built racOk w [x] (RAc.enc x).toArray (by simp [flatR]) (by simp)
  obtain ⟨v', ot', W, k1, k2, k3, k4⟩ := ogR_app racOk _ ot _ T (h2.nw hN) (.slice (some ⟨w.heap.size, 0, none⟩) 1 1) [x] ((hb.slr racOk).mono (fun _ h => h.elim)) (by simp only [RAc, List.length_singleton]; omega) (by simp only [List.length_singleton]; omega)
  obtain ⟨a', c', e2, q1, q2⟩ := k2.form
  rw [List.length_append, List.length_singleton] at e2 q1
  subst e2
  have hfo : ot ≠ some fb := fun e => by
    have t1 := H.tot fb e
    rw [H.tfb] at t1; cases t1
  have hW : W.heap[fb]? = some (.cells #[.map (some mb), .int .i64 h.nodes, .int .i64 h.bytes, .int .i64 h.held, .int .i64 h.next, .slice a T.length c] 100) := k3.heap (hN.heap h1) (fun e => hfo e)
  have ho : ot' = ot ∨ ∃ g, ot' = some g ∧ w.heap.size ≤ g := by
    rcases k4 with e | ⟨g, e, hg⟩
    · exact .inl e
    · refine .inr ⟨g, e, ?_⟩
      have : (w.alloc (.cells (RAc.enc x).toArray 129)).heap.size = w.heap.size + 1 := by simp
      omega
  have hfo' : ot' ≠ some fb := fun e => by
    rcases ho with e2 | ⟨g, e2, hg⟩
    · exact hfo (e2 ▸ e)
    · rw [e2] at e; injection e with e; have := blt h1; omega
  have hF : Fr (fun k => k = fb ∨ ot = some k) w (W.setCell ⟨fb, 5, none⟩ (.slice a' (T.length + 1) c')) :=
    ((hN.any.trans (k3.mono (fun i hi => .inl (.inr hi))))).setCell _ _ (.inl (.inl rfl))
  have hs : (W.setCell ⟨fb, 5, none⟩ (.slice a' (T.length + 1) c')).heap[fb]? = some (.cells #[.map (some mb), .int .i64 h.nodes, .int .i64 h.bytes, .int .i64 h.held, .int .i64 h.next, .slice a' (T.length + 1) c'] 100) := rset hW 5 _
  refine ⟨a, c, (rc h1 5 _ rfl).1, hc1, hc2, a', c', W, k1, (rc hW 5 _ rfl).2, ⟨_, (rc hW 5 _ rfl).1⟩, ot', ?_, hF, ho⟩
  refine H.head hF (fun k hk => hk) ho hs ?_
  exact k2.kept ((Fr.refl (fun k => k = fb) W).setCell ⟨fb, 5, none⟩ _ (.inl rfl)) (fun g hg e => hfo' (by rw [hg, e]))
/-- What did leaves. -/
def DidO (fb mb : Nat) (ot : Option Nat) (L : Int → Lay) (h : Hx) (q : Int → Option Pn) (cnt : Nat) (T : List Ac) (w w' : World) : Prop := ∃ ot', FsH fb mb ot' L h q cnt T w' ∧ Fr (fun k => k = fb ∨ ot = some k) w w' ∧ (ot' = ot ∨ ∃ g, ot' = some g ∧ w.heap.size ≤ g)
section
attribute [local go_sem ↓] appV_fold
set_option maxHeartbeats 4000000 in
theorem did_any (H : FsH fb mb ot L h q cnt T w) (hT : T.length ≤ 2000000000000) (x : Ac) : Calls Tryz.prog 97 #[.pointer (some ⟨fb, 0, none⟩), .agg (acC x)] w fun e w' => (∃ r, e = .returned r) ∧ DidO fb mb ot L h q cnt (T ++ [x]) w w' := by
  obtain ⟨P, hP⟩ : ∃ P : Ending → World → Prop, P = fun e w' => (∃ r, e = .returned r) ∧ DidO fb mb ot L h q cnt (T ++ [x]) w w' := ⟨_, rfl⟩
  rw [← hP]
  obtain ⟨V, hV⟩ : ∃ V, V = w.alloc (.cells (acC x) 129) := ⟨_, rfl⟩
  have hN : Nw w V := by rw [hV]; exact (Fr.refl _ _).alloc _
  have HV := H.nw hN
  obtain ⟨a, c, x5, z1, z2, a1, c1, W1, r1, g1, ⟨u1, y1⟩, o1⟩ := HV.push hT x
  obtain ⟨a2, c2, x5', _, _, a3, c3, W3, r3, g3, ⟨u3, y3⟩, o3⟩ := (HV.nw ((Fr.refl _ _).drew)).push hT x
  have e5 : (V.drew).cell? ⟨fb, 5, none⟩ = V.cell? ⟨fb, 5, none⟩ := rfl
  rw [e5, x5] at x5'
  simp only [Option.some.injEq, Value.slice.injEq, true_and] at x5'
  obtain ⟨rfl, rfl⟩ := x5'
  have HF : Hid (∀ r, P (.returned r) (W1.setCell ⟨fb, 5, none⟩ (.slice a1 (T.length + 1) c1))) := fun r => by
    rw [hP]
    obtain ⟨ot', k1, k2, k3⟩ := o1
    have hs := hN.size
    refine ⟨⟨r, rfl⟩, ot', k1, hN.any.trans k2, ?_⟩
    rcases k3 with e | ⟨g, e, hg⟩
    · exact .inl e
    · exact .inr ⟨g, e, by omega⟩
  have HF3 : Hid (∀ r, P (.returned r) (W3.setCell ⟨fb, 5, none⟩ (.slice a3 (T.length + 1) c3))) := fun r => by
    rw [hP]
    obtain ⟨ot', k1, k2, k3⟩ := o3
    have hs := hN.size
    have hs2 : (V.drew).heap.size = V.heap.size := rfl
    refine ⟨⟨r, rfl⟩, ot', k1, (hN.any.trans (Fr.refl _ _).drew).trans k2, ?_⟩
    rcases k3 with e | ⟨g, e, hg⟩
    · exact .inl e
    · exact .inr ⟨g, e, by omega⟩
  have hb : ∀ j v, (acC x)[j]? = some v → V.cell? ⟨w.heap.size, j, none⟩ = some v := fun j v hv => by rw [hV]; exact (rc (nh w _) j v hv).1
  have b0 := hb 0 _ rfl
  have b1 := hb 1 _ rfl
  have b2 := hb 2 _ rfl
  have b3 := hb 3 _ rfl
  have b4 := hb 4 _ rfl
  have b5 := hb 5 _ rfl
  have b6 := hb 6 _ rfl
  have b7 := hb 7 _ rfl
  have hfl := H.cs.lt
  have hfv := HV.cs.lt
  have hne : ¬ fb = V.heap.size := by omega
  have r3' : ∀ ty, (appV #[68, 68] ty #[.slice a T.length c, .slice (some ⟨V.heap.size, 0, none⟩) 1 1]).run Tryz.prog (V.alloc (.cells (acC x) 129)).drew = .ok (.slice a3 (T.length + 1) c3) W3 := r3
  clear H HV o1 o3 hP hb e5 r3
  unfold acC at *
  generalize mk x.name = nm at *
  generalize mk x.other = om at *
  generalize T.length = N at *
  go_enter Tryz.func97, Tryz.ntmps97
  go_upto_region 1 with fail
  rw [← hV]
  clear hV
  go_region
  all_goals go_wp2_with fail
  all_goals (first | exact HF.out _ | exact HF3.out _ | (go_end0; first | exact HF.out _ | exact HF3.out _))
end
end Go.Proofs.YtcogkhcfpgelhaaGreat

namespace Go.Proofs.YtcogkhcfpgelhaaGreat
open Go.RowKit
set_option linter.unusedVariables false
set_option maxRecDepth 100000
variable {fb mb : Nat} {ot : Option Nat} {L : Int → Lay} {h : Hx} {q : Int → Option Pn} {cnt : Nat} {T : List Ac} {w w' : World} {X : Nat → Prop}
theorem FsH.turnS (H : FsH fb mb ot L h q cnt T w) {n : Int} {p p' : Pn} (hp : q n = some p) (hk : p'.kind = p.kind) (f : Fr X w w') (hX : ∀ k, X k → k = (L n).ib ∨ p.kind = 1 ∧ k = (L n).eb ∨ (L n).od = some k)
    (hN : NdH (L n) p' w') : FsH fb mb ot L h (fun k => if k = n then some p' else q k) cnt T w' := by
  have := H.turn hp hk (od' := (L n).od) (fun g hg => .inl hg) f hX hN
  have e : (fun k => if k = n then (⟨(L n).ib, (L n).eb, (L n).od⟩ : Lay) else L k) = L := by
    funext k
    by_cases hk : k = n
    · rw [if_pos hk, hk]
    · rw [if_neg hk]
  rw [e] at this
  exact this
/-- An inode's own cells turned. -/
theorem NdH.re {y : Lay} {p p' : Pn} (hN : NdH y p w) (f : Fr (fun k => k = y.ib) w w') (e1 : p'.data = p.data) (e2 : p'.ents = p.ents) (e3 : p'.ne = p.ne) (e4 : p'.kind = p.kind)
    (hh : ∀ dv ev, w.heap[y.ib]? = some (.cells (ndC p dv ev) 104) → w'.heap[y.ib]? = some (.cells (ndC p' dv ev) 104)) : NdH y p' w' := by
  obtain ⟨dv, ev, k1, k2, k3, k4⟩ := hN.blk
  have t1 := tg_cells k1
  refine ⟨dv, ev, hh dv ev k1, ?_, fun hk => ?_, fun hk => ?_⟩
  · rw [e1]
    refine k2.kept f (fun g hg e => ?_)
    rw [hg] at k2
    have := k2.tg
    rw [e, t1] at this; cases this
  · rw [e4] at hk
    rw [e2, e3]
    refine ⟨(k3 hk).1, (k3 hk).2.kept f (fun e => ?_)⟩
    have := (k3 hk).2.tg
    rw [e, t1] at this; cases this
  · rw [e4] at hk
    rw [e2, e3]
    exact k4 hk
/-- An entry more. -/
def putEnt (p : Pn) (s : Tx) (n : Int) : Pn := { p with ents := fun x => if x = s then some n else p.ents x, ne := p.ne + 1 }
/-- Named once more. -/
def named1 (p : Pn) (d : Int) : Pn := { p with links := p.links + 1, up := if p.kind = 1 then d else p.up }
def entQ (q : Int → Option Pn) (d : Int) (s : Tx) (n : Int) (k : Int) : Option Pn := if k = n then (q n).map (named1 · d) else if k = d then (q d).map (putEnt · s n) else q k
theorem ent_store (H : FsH fb mb ot L h q cnt T w) {d n : Int} {s : Tx} (hs : s.length ≤ 140737488351232) {pd : Pn} (hd : q d = some pd) (hk : pd.kind = 1) (hf : pd.ents s = none) (hne : pd.ne ≤ 1000000000000000) :
    ∃ W, (Instr.mapUpdate 102 (.map (some (L d).eb)) (.string (mk s)) (.int .i64 n)).run Tryz.prog w = .ok () W ∧ FsH fb mb ot L h (fun k => if k = d then some (putEnt pd s n) else q k) cnt T W ∧ Fr (fun k => k = (L d).eb) w W := by
  obtain ⟨dv, ev, k1, k2, k3, k4⟩ := (H.nd d pd hd).blk
  obtain ⟨W, r1, r2, r3⟩ := (k3 hk).2.store meOk s hs n trivial hne
  refine ⟨W, r1, H.turnS hd rfl r3 (fun k e => .inr (.inl ⟨hk, e⟩)) ⟨dv, ev, ?_, ?_, fun _ => ⟨(k3 hk).1, ?_⟩, fun hn => absurd hk hn⟩, r3⟩
  · exact r3.heap k1 (fun e => by have := (k3 hk).2.tg; rw [← e, tg_cells k1] at this; cases this)
  · exact k2.kept r3 (fun g hg e => by rw [hg] at k2; have := k2.tg; rw [e, (k3 hk).2.tg] at this; cases this)
  · have := r2 (putEnt pd s n).ents (fun x _ => rfl)
    rw [hf] at this
    exact this
set_option maxHeartbeats 4000000 in
theorem enter_any (H : FsH fb mb ot L h q cnt T w) (d n : Int) (hd64 : I64 d) (hn64 : I64 n) (s : Tx) (hs : s.length ≤ 140737488351232) {pd pn : Pn} (hd : q d = some pd) (hk : pd.kind = 1) (hf : pd.ents s = none) (hne : pd.ne ≤ 1000000000000000) (hn : q n = some pn) (hdn : d ≠ n) (hl : 0 ≤ pn.links ∧ pn.links ≤ 1000000000000000) :
    Calls Tryz.prog 100 #[.pointer (some ⟨fb, 0, none⟩), .agg #[.int .i64 d, .string (mk s)], .int .i64 n] w fun e w' => (∃ r, e = .returned r) ∧ FsH fb mb ot L h (entQ q d s n) cnt T w' ∧ Fr (fun k => k = (L d).eb ∨ k = (L n).ib) w w' := by
  obtain ⟨P, hP⟩ : ∃ P : Ending → World → Prop, P = fun e w' => (∃ r, e = .returned r) ∧ FsH fb mb ot L h (entQ q d s n) cnt T w' ∧ Fr (fun k => k = (L d).eb ∨ k = (L n).ib) w w' := ⟨_, rfl⟩
  rw [← hP]
  obtain ⟨V, hV⟩ : ∃ V, V = w.alloc (.cells #[.int .i64 d, .string (mk s)] 127) := ⟨_, rfl⟩
  have hN : Nw w V := by rw [hV]; exact (Fr.refl _ _).alloc _
  have HV := H.nw hN
  have c0 := HV.cs.c0
  have hfl := H.cs.lt
  obtain ⟨dv, hC⟩ := HV.dirC hd hk
  have x8 := hC.c8
  have hl1 : (Instr.lookup 98 (.map (some mb)) (.int .i64 d) false).run Tryz.prog V.drew = .ok (.pointer (some ⟨(L d).ib, 0, none⟩)) V.drew := (HV.nw ((Fr.refl _ _).drew)).look_some hd64 hd
  have b0 : V.cell? ⟨w.heap.size, 0, none⟩ = some (.int .i64 d) := by rw [hV]; exact (rc (nh w _) 0 _ rfl).1
  have b1 : V.cell? ⟨w.heap.size, 1, none⟩ = some (.string (mk s)) := by rw [hV]; exact (rc (nh w _) 1 _ rfl).1
  obtain ⟨W, hmu, HW, hfW⟩ := ent_store (n := n) (HV.nw ((Fr.refl _ _).drew)) hs hd hk hf hne
  have hnW : (if n = d then some (putEnt pd s n) else q n) = some pn := by rw [if_neg (fun e => hdn e.symm)]; exact hn
  have d0 := HW.cs.c0
  have hl2 := HW.look_some (k := n) hn64 hnW
  obtain ⟨dv2, ev2, nv1, _, _, _⟩ := (HW.nd n pn hnW).blk
  have hD := ndc_of nv1
  have y0 := hD.c0
  have y9 := hD.c9
  have g9 := hD.f9
  have b2 : W.cell? ⟨w.heap.size, 0, none⟩ = some (.int .i64 d) := by
    refine hfW.cellv (v := .int .i64 d) (p := ⟨w.heap.size, 0, none⟩) b0 (fun e => ?_)
    have e : w.heap.size = (L d).eb := e
    have := H.lt _ (.inr (.inr (.inr ⟨d, pd, hd, .inr (.inl ⟨hk, rfl⟩)⟩)))
    omega
  have hib : (L n).ib < w.heap.size := H.lt _ (.inr (.inr (.inr ⟨n, pn, hn, .inl rfl⟩)))
  have hnb : ¬ (L n).ib = w.heap.size := by omega
  have hnb2 : ¬ w.heap.size = (L n).ib := by omega
  have hfW0 : Fr (fun k => k = (L d).eb ∨ k = (L n).ib) w W := (hN.any.trans (Fr.refl _ _).drew).trans (hfW.mono (fun i e => .inl (.inl e)))
  obtain ⟨W2, hW2⟩ : ∃ W2, W2 = W.setCell ⟨(L n).ib, 9, none⟩ (.int .i64 (pn.links + 1)) := ⟨_, rfl⟩
  have heq : entQ q d s n = fun k => if k = n then some (named1 pn d) else (if k = d then some (putEnt pd s n) else q k) := by
    funext k
    unfold entQ
    rw [hn, hd]; rfl
  have hw1 : IntKind.i64.wrap (pn.links + 1) = pn.links + 1 := by rw [IntKind.wrap_i64]; omega
  by_cases hk1 : pn.kind = 1
  · have ga : W2.frozen? ⟨(L n).ib, 10, none⟩ = false := by rw [hW2]; exact (rc (rset nv1 9 _) 10 _ rfl).2
    have ya : W2.cell? ⟨(L n).ib, 10, none⟩ = some (.int .i64 pn.up) := by rw [hW2]; exact (rc (rset nv1 9 _) 10 _ rfl).1
    have yk : W2.cell? ⟨(L n).ib, 0, none⟩ = some (.int .i64 1) := by rw [hW2, ← hk1]; exact (rc (rset nv1 9 _) 0 _ rfl).1
    have b3 : W2.cell? ⟨w.heap.size, 0, none⟩ = some (.int .i64 d) := by
      rw [hW2]
      exact Fr.cellv ((Fr.refl (fun k => k = (L n).ib) W).setCell ⟨(L n).ib, 9, none⟩ _ (.inl rfl)) b2 (fun e => hnb2 e)
    have HF : Hid (∀ r, P (.returned r) (W2.setCell ⟨(L n).ib, 10, none⟩ (.int .i64 d))) := fun r => by
      rw [hP, heq]
      have f2 : Fr (fun k => k = (L n).ib) W (W2.setCell ⟨(L n).ib, 10, none⟩ (.int .i64 d)) := by
        rw [hW2]
        exact ((Fr.refl (fun k => k = (L n).ib) W).setCell ⟨(L n).ib, 9, none⟩ _ (.inl rfl)).setCell ⟨(L n).ib, 10, none⟩ _ (.inl rfl)
      refine ⟨⟨r, rfl⟩, HW.turnS hnW rfl f2 (fun k e => .inl e) ((HW.nd n pn hnW).re f2 rfl rfl rfl rfl (fun dv ev hh => ?_)), hfW0.trans (f2.mono (fun i e => .inl (.inr e)))⟩
      have := rset (rset hh 9 (.int .i64 (pn.links + 1))) 10 (.int .i64 d)
      rw [← hW2] at this
      rw [this]
      simp [ndC, named1, hk1]
    clear H HV hC HW hD nv1 hfW hfW0 hP heq hn hd hnW hk hf
    rw [hk1] at y0
    clear hk1
    generalize (L d).ib = ib at *
    generalize (L d).eb = eb at *
    generalize (L n).ib = nb at *
    generalize mk s = ss at *
    generalize pn.links = lk at *
    generalize pn.up = up at *
    go_enter Tryz.func100, Tryz.ntmps100
    go_upto_region 1 with fail
    rw [← hV]
    clear hV
    go_region
    go_upto_region 4 with fail
    rw [← hW2]
    clear hW2
    go_wp2_with fail
    first | exact HF.out _ | (go_end0; exact HF.out _)
  · have hkb : (pn.kind == 1) = false := by rw [beq_eq_false_iff_ne]; exact hk1
    have yk : W2.cell? ⟨(L n).ib, 0, none⟩ = some (.int .i64 pn.kind) := by rw [hW2]; exact (rc (rset nv1 9 _) 0 _ rfl).1
    have HF : Hid (∀ r, P (.returned r) W2) := fun r => by
      rw [hP, heq]
      have f2 : Fr (fun k => k = (L n).ib) W W2 := by
        rw [hW2]
        exact (Fr.refl (fun k => k = (L n).ib) W).setCell ⟨(L n).ib, 9, none⟩ _ (.inl rfl)
      refine ⟨⟨r, rfl⟩, HW.turnS hnW rfl f2 (fun k e => .inl e) ((HW.nd n pn hnW).re f2 rfl rfl rfl rfl (fun dv ev hh => ?_)), hfW0.trans (f2.mono (fun i e => .inl (.inr e)))⟩
      have := rset hh 9 (.int .i64 (pn.links + 1))
      rw [← hW2] at this
      rw [this]
      simp [ndC, named1, hk1]
    clear H HV hC HW hD nv1 hfW hfW0 hP heq hn hd hnW hk hf
    generalize pn.kind = kd at *
    generalize (L d).ib = ib at *
    generalize (L d).eb = eb at *
    generalize (L n).ib = nb at *
    generalize mk s = ss at *
    generalize pn.links = lk at *
    go_enter Tryz.func100, Tryz.ntmps100
    go_upto_region 1 with fail
    rw [← hV]
    clear hV
    go_region
    go_upto_region 4 with fail
    rw [← hW2]
    clear hW2
    go_wp2_with fail
    first | exact HF.out _ | (go_end0; exact HF.out _)
end Go.Proofs.YtcogkhcfpgelhaaGreat

namespace Go.Proofs.YtcogkhcfpgelhaaGreat
open Go.RowKit
set_option linter.unusedVariables false
set_option maxRecDepth 100000
variable {fb mb : Nat} {ot : Option Nat} {L : Int → Lay} {h : Hx} {q : Int → Option Pn} {cnt : Nat} {T : List Ac} {w w' : World} {X : Nat → Prop}
/-- What a call that changes something leaves. -/
def MutO (fb mb : Nat) (ot : Option Nat) (L : Int → Lay) (q : Int → Option Pn) (h' : Hx) (q' : Int → Option Pn) (cnt' : Nat) (T' : List Ac) (w w' : World) : Prop := ∃ ot' L', FsH fb mb ot' L' h' q' cnt' T' w' ∧ Fr (Bk fb mb ot L q) w w' ∧ ∀ k, Bk fb mb ot' L' q' k → Bk fb mb ot L q k ∨ w.heap.size ≤ k
theorem entQ_some {d n k : Int} {s : Tx} {p : Pn} (h : entQ q d s n k = some p) : ∃ p', q k = some p' ∧ p'.kind = p.kind := by
  unfold entQ at h
  split at h
  · rename_i e
    subst e
    cases hq : q k with
    | none => rw [hq] at h; cases h
    | some x => rw [hq] at h; simp only [Option.map_some, Option.some.injEq] at h; exact ⟨x, rfl, by rw [← h]; rfl⟩
  · split at h
    · rename_i e1 e
      subst e
      cases hq : q k with
      | none => rw [hq] at h; cases h
      | some x => rw [hq] at h; simp only [Option.map_some, Option.some.injEq] at h; exact ⟨x, rfl, by rw [← h]; rfl⟩
    · exact ⟨p, h, rfl⟩
/-- An inode that is new. -/
abbrev newP (kd : Int) (mt : Mt) (tgt : Tx) : Pn := ⟨kd, mt, [], tgt, fun _ => none, 0, 0, 0⟩
/-- The entries of an inode that is new. -/
def newE (kd : Int) (eb : Nat) : Value := if kd = 1 then .map (some eb) else .map none
def withQ (q : Int → Option Pn) (n : Int) (p : Pn) (k : Int) : Option Pn := if k = n then some p else q k
/-- What add leaves of the inodes. -/
def addQ (q : Int → Option Pn) (d : Int) (s : Tx) (n : Int) (p : Pn) : Int → Option Pn := entQ (withQ q n p) d s n
theorem add_tail {w0 V : World} (H0 : FsH fb mb ot L h q cnt T w0) (hN : Nw w0 V) (hfr : q h.next = none) (hnx : 0 ≤ h.next ∧ h.next ≤ 1099511627776) (hT : T.length ≤ 2000000000000) (hcn : cnt ≤ 1000000) {d : Int} (hd64 : I64 d) {s : Tx} (hs : s.length ≤ 140737488351232) {pd : Pn} (hd : q d = some pd) (hk : pd.kind = 1) (hf : pd.ents s = none) (hne : pd.ne ≤ 1000000000000000)
    (kd : Int) (mt : Mt) (tgt : Tx) (ib eb sb : Nat) (hib : w0.heap.size ≤ ib) (hsb : w0.heap.size ≤ sb) (hsi : sb ≠ ib) (c0 : V.cell? ⟨sb, 0, none⟩ = some (.int .i64 d)) (c1 : V.cell? ⟨sb, 1, none⟩ = some (.string (mk s)))
    (hI : V.heap[ib]? = some (.cells (ndC (newP kd mt tgt) (.slice none 0 0) (newE kd eb)) 104)) (hE : kd = 1 → w0.heap.size ≤ eb ∧ Mp ME eb (fun _ => none) 0 V) (op : Int) :
    ∃ W6, (Instr.mapUpdate 98 (.map (some mb)) (.int .i64 h.next) (.pointer (some ⟨ib, 0, none⟩))).run Tryz.prog (V.setCell ⟨fb, 4, none⟩ (.int .i64 (h.next + 1))) = .ok () W6 ∧ W6.cell? ⟨sb, 0, none⟩ = some (.int .i64 d) ∧ W6.cell? ⟨sb, 1, none⟩ = some (.string (mk s)) ∧ Hid (Calls Tryz.prog 100 #[.pointer (some ⟨fb, 0, none⟩), .agg #[.int .i64 d, .string (mk s)], .int .i64 h.next] W6 fun e w7 => (∃ r, e = .returned r) ∧ w7.cell? ⟨sb, 0, none⟩ = some (.int .i64 d) ∧ w7.cell? ⟨sb, 1, none⟩ = some (.string (mk s)) ∧ Hid (Calls Tryz.prog 97 #[.pointer (some ⟨fb, 0, none⟩), .agg (acC ⟨op, d, s, h.next, 0, [], 0, 0⟩)] w7 fun e w8 => (∃ r, e = .returned r) ∧ Hid (MutO fb mb ot L q { h with next := h.next + 1 } (addQ q d s h.next (newP kd mt tgt)) (cnt + 1) (T ++ [⟨op, d, s, h.next, 0, [], 0, 0⟩]) w0 w8))) := by
  have HV := H0.nw hN
  obtain ⟨tv, v1, v2⟩ := HV.blk
  have f1 : Fr (fun k => k = fb) V (V.setCell ⟨fb, 4, none⟩ (.int .i64 (h.next + 1))) := (Fr.refl (fun k => k = fb) V).setCell ⟨fb, 4, none⟩ _ (.inl rfl)
  have hfo : ot ≠ some fb := fun e => by
    have t1 := HV.tot fb e
    rw [HV.tfb] at t1; cases t1
  have H1 : FsH fb mb ot L { h with next := h.next + 1 } q cnt T (V.setCell ⟨fb, 4, none⟩ (.int .i64 (h.next + 1))) := by
    refine HV.head f1 (fun k e => .inl e) (.inl rfl) (tv := tv) (rset v1 4 _) (v2.kept f1 (fun g hg e => hfo (by rw [hg, e])))
  generalize V.setCell ⟨fb, 4, none⟩ (.int .i64 (h.next + 1)) = V1 at *
  obtain ⟨W6, r1, r2, r3⟩ := H1.mp.store miOk h.next ⟨by omega, by omega⟩ ib trivial (by omega)
  have hfb : fb < w0.heap.size := H0.lt fb (.inl rfl)
  have hmb : mb < w0.heap.size := H0.lt mb (.inr (.inl rfl))
  have fI : V1.heap[ib]? = some (.cells (ndC (newP kd mt tgt) (.slice none 0 0) (newE kd eb)) 104) := f1.heap hI (by omega)
  have fI6 := r3.heap fI (by omega)
  have hN6 : NdH ⟨ib, eb, none⟩ (newP kd mt tgt) W6 := by
    refine ⟨_, _, fI6, ⟨rfl, rfl⟩, fun hk1 => ?_, fun hk1 => ?_⟩
    · obtain ⟨e1, e2⟩ := hE hk1
      have hk1 : kd = 1 := hk1
      refine ⟨by unfold newE; rw [if_pos hk1], ?_⟩
      exact (e2.kept f1 (by omega)).kept r3 (by omega)
    · have hk1 : kd ≠ 1 := hk1
      exact ⟨by unfold newE; rw [if_neg hk1], rfl, fun _ => rfl⟩
  have hs1 := hN.size
  have hs2 := f1.size
  have H6 := H1.more (n := h.next) hfr (p := newP kd mt tgt) (y := ⟨ib, eb, none⟩) r3 (w0 := w0) (by omega) (fun k hk => H0.lt k hk) ⟨hib, fun hk1 => (hE hk1).1, fun g hg => by cases hg⟩ hN6 (cnt' := cnt + 1) (fun m hm => by
    have := r2 m (fun x _ => hm x)
    rw [hfr] at this
    exact this)
  have hdn : d ≠ h.next := fun e => by rw [e, hfr] at hd; cases hd
  have hqd : withQ q h.next (newP kd mt tgt) d = some pd := by unfold withQ; rw [if_neg hdn]; exact hd
  have hqn : withQ q h.next (newP kd mt tgt) h.next = some (newP kd mt tgt) := by unfold withQ; rw [if_pos rfl]
  have HE := enter_any H6 d h.next hd64 ⟨by omega, by omega⟩ s hs hqd hk hf hne hqn hdn ⟨Int.le_refl _, by show (0 : Int) ≤ _; omega⟩
  have fB : Fr (fun k => k = fb ∨ k = mb) V W6 := (f1.mono (fun i e => .inl (.inl e))).trans (r3.mono (fun i e => .inl (.inr e)))
  refine ⟨W6, r1, fB.cellv c0 (by show ¬ (sb = fb ∨ sb = mb); omega), fB.cellv c1 (by show ¬ (sb = fb ∨ sb = mb); omega), HE.mono ?_⟩
  rintro e w7 ⟨hr, H7, f7⟩
  simp only [if_neg hdn] at f7
  have hLd : (L d).eb < w0.heap.size := H0.lt _ (.inr (.inr (.inr ⟨d, pd, hd, .inr (.inl ⟨hk, rfl⟩)⟩)))
  have hsbf : ¬ (sb = (L d).eb ∨ sb = ib) := by omega
  have fA : Fr (fun k => k = fb ∨ k = mb ∨ k = (L d).eb ∨ k = ib) V w7 := ((f1.mono (fun i e => .inl (.inl e))).trans (r3.mono (fun i e => .inl (.inr (.inl e))))).trans (f7.mono (fun i e => .inl (.inr (.inr (by simpa using e)))))
  have hsA : ¬ (sb = fb ∨ sb = mb ∨ sb = (L d).eb ∨ sb = ib) := by omega
  refine ⟨hr, fA.cellv c0 hsA, fA.cellv c1 hsA, ?_⟩
  refine (did_any H7 hT _).mono ?_
  rintro e w8 ⟨hr8, ot', H8, f8, ho⟩
  refine ⟨hr8, ot', _, H8, ?_, fun k hk8 => ?_⟩
  · have g1 : Fr (Bk fb mb ot L q) w0 w7 := (hN.any (X := Bk fb mb ot L q)).then fA (fun i hi => by
      rcases hi with rfl | rfl | rfl | rfl
      · exact .inl (.inl rfl)
      · exact .inl (.inr (.inl rfl))
      · exact .inl (.inr (.inr (.inr ⟨d, pd, hd, .inr (.inl ⟨hk, rfl⟩)⟩)))
      · exact .inr hib)
    exact g1.trans (f8.mono (fun i hi => by
      rcases hi with rfl | hi
      · exact .inl (.inl rfl)
      · exact .inl (.inr (.inr (.inl hi)))))
  · have hs7 := fA.size
    rcases hk8 with rfl | rfl | hk8 | ⟨n, p, hp, hk8⟩
    · exact .inl (.inl rfl)
    · exact .inl (.inr (.inl rfl))
    · rcases ho with e | ⟨g, e, hg⟩
      · exact .inl (.inr (.inr (.inl (e ▸ hk8))))
      · rw [e] at hk8; injection hk8 with hk8; exact .inr (by omega)
    · obtain ⟨p', hp', hkp⟩ := entQ_some hp
      by_cases hnn : n = h.next
      · subst hnn
        rw [hqn] at hp'
        simp only [if_pos] at hk8
        injection hp' with hp'
        rcases hk8 with rfl | ⟨hk1, rfl⟩ | hk8
        · exact .inr hib
        · exact .inr (hE (by rw [← hp'] at hkp; exact hkp.trans hk1)).1
        · cases hk8
      · unfold withQ at hp'
        rw [if_neg hnn] at hp'
        simp only [if_neg hnn] at hk8
        exact .inl (.inr (.inr (.inr ⟨n, p', hp', by rw [hkp]; exact hk8⟩)))
/-- What add answers. -/
def addE (h : Hx) (q : Int → Option Pn) (cnt : Nat) (d : Int) (s : Tx) (kd : Int) (mt : Mt) (tgt : Tx) : Int :=
  if unfQ q [(d, s)] ≠ 0 then unfQ q [(d, s)] else if kd = 3 ∧ tgOk tgt = false then 107 else if mtOk mt = false then 1 else if ((q d).bind (fun p => p.ents s)).isSome then 104 else if (cnt : Int) ≥ h.nodes ∨ h.next ≥ 1099511627776 then 105 else 0
theorem unfQ_one {d : Int} {s : Tx} (hu : unfQ q [(d, s)] = 0) : ∃ pd, q d = some pd ∧ pd.kind = 1 ∧ nmOk s = true := by
  unfold unfQ at hu
  simp only [List.any_cons, List.any_nil, Bool.or_false] at hu
  cases hq : q d with
  | none => rw [hq] at hu; simp at hu
  | some pd =>
    rw [hq] at hu
    simp only [Option.isNone_some, Bool.false_eq_true, if_false] at hu
    unfold isDirQ at hu
    rw [hq] at hu
    by_cases hk : pd.kind = 1
    · simp only [hk, decide_true, Bool.not_true, Bool.false_eq_true, if_false] at hu
      cases hn : nmOk s with
      | false => rw [hn] at hu; simp at hu
      | true => exact ⟨pd, rfl, hk, rfl⟩
    · simp [hk] at hu
end Go.Proofs.YtcogkhcfpgelhaaGreat

namespace Go.Proofs.YtcogkhcfpgelhaaGreat
open Go.RowKit
set_option linter.unusedVariables false
set_option maxRecDepth 100000
variable {fb mb : Nat} {ot : Option Nat} {L : Int → Lay} {h : Hx} {q : Int → Option Pn} {cnt : Nat} {T : List Ac} {w w' : World} {X : Nat → Prop}
/-- What add answers and leaves. -/
def AddO (fb mb : Nat) (ot : Option Nat) (L : Int → Lay) (h : Hx) (q : Int → Option Pn) (cnt : Nat) (T : List Ac) (op d : Int) (s : Tx) (kd : Int) (mt : Mt) (tgt : Tx) (w0 : World) (e : Ending) (w' : World) : Prop :=
  (addE h q cnt d s kd mt tgt ≠ 0 ∧ e = .returned (.tuple #[.int .i64 0, .int .i64 (addE h q cnt d s kd mt tgt)]) ∧ Nw w0 w') ∨
  (addE h q cnt d s kd mt tgt = 0 ∧ e = .returned (.tuple #[.int .i64 h.next, .int .i64 0]) ∧ MutO fb mb ot L q { h with next := h.next + 1 } (addQ q d s h.next (newP kd mt tgt)) (cnt + 1) (T ++ [⟨op, d, s, h.next, 0, [], 0, 0⟩]) w0 w')
theorem rdp_one {w : World} (d : Int) (s : Tx) : RdP w.heap.size 0 [(d, s)] (w.alloc (.cells #[.int .i64 d, .string (mk s)] 127)) := fun i hi => by
  have h0 : i = 0 := by simp at hi; omega
  subst h0
  exact ⟨(rc (nh w _) 0 _ rfl).1, (rc (nh w _) 1 _ rfl).1⟩
set_option maxHeartbeats 16000000 in
theorem add_any {w0 : World} (H0 : FsH fb mb ot L h q cnt T w0) (hN0 : Nw w0 w) (hfr : q h.next = none) (hnx : 0 ≤ h.next ∧ h.next ≤ 1099511627776) (hT : T.length ≤ 2000000000000) (hcn : cnt ≤ 1000000) (d : Int) (hd64 : I64 d) (s : Tx) (hs : s.length ≤ 140737488351232)
    (hzero : ∀ p n, q d = some p → p.ents s = some n → n ≠ 0) (hneb : ∀ p, q d = some p → p.ne ≤ 1000000000000000) (kd : Int) (mt : Mt) (tgt : Tx) (htl : tgt.length ≤ 140737488351232) (eb : Nat) (hE : kd = 1 → w0.heap.size ≤ eb ∧ Mp ME eb (fun _ => none) 0 w) (op : Int) :
    Calls Tryz.prog 93 #[.pointer (some ⟨fb, 0, none⟩), .int .i64 op, .agg #[.int .i64 d, .string (mk s)], .agg (ndC (newP kd mt tgt) (.slice none 0 0) (newE kd eb))] w (AddO fb mb ot L h q cnt T op d s kd mt tgt w0) := by
  obtain ⟨P, hP⟩ : ∃ P : Ending → World → Prop, P = AddO fb mb ot L h q cnt T op d s kd mt tgt w0 := ⟨_, rfl⟩
  rw [← hP]
  have HP := tHid hP
  clear hP
  obtain ⟨V1, hV1⟩ : ∃ V1, V1 = w.alloc (.cells #[.int .i64 d, .string (mk s)] 127) := ⟨_, rfl⟩
  obtain ⟨V2, hV2⟩ : ∃ V2, V2 = V1.alloc (.cells (ndC (newP kd mt tgt) (.slice none 0 0) (newE kd eb)) 104) := ⟨_, rfl⟩
  have hN1 : Nw w V1 := by rw [hV1]; exact (Fr.refl _ _).alloc _
  have hN2 : Nw V1 V2 := by rw [hV2]; exact (Fr.refl _ _).alloc _
  have hsz : V1.heap.size = w.heap.size + 1 := by rw [hV1]; simp
  have hs0 := hN0.size
  obtain ⟨sb, hsb⟩ : ∃ sb, sb = w.heap.size := ⟨_, rfl⟩
  obtain ⟨ib, hib⟩ : ∃ ib, ib = V1.heap.size := ⟨_, rfl⟩
  have hI0 : V2.heap[ib]? = some (.cells (ndC (newP kd mt tgt) (.slice none 0 0) (newE kd eb)) 104) := by rw [hib, hV2]; exact nh _ _
  have HC : Hid (∀ V, Nw V2 V → FsH fb mb ot L h q cnt T V ∧ V.cell? ⟨sb, 0, none⟩ = some (.int .i64 d) ∧ V.cell? ⟨sb, 1, none⟩ = some (.string (mk s)) ∧ NdC ib (newP kd mt tgt) (.slice none 0 0) (newE kd eb) V ∧ V.heap[ib]? = some (.cells (ndC (newP kd mt tgt) (.slice none 0 0) (newE kd eb)) 104)) := fun V hV => by
    have hI := hV.heap hI0
    refine ⟨H0.nw (((hN0.trans hN1).trans hN2).trans hV), (hN2.trans hV).cell ?_, (hN2.trans hV).cell ?_, ndc_of hI, hI⟩
    · rw [hV1, hsb]; exact (rc (nh w _) 0 _ rfl).1
    · rw [hV1, hsb]; exact (rc (nh w _) 1 _ rfl).1
  have HNw : Hid (∀ V, Nw V2 V → Nw w0 V) := fun V hV => ((hN0.trans hN1).trans hN2).trans hV
  have HU : Hid (Calls Tryz.prog 98 #[.pointer (some ⟨fb, 0, none⟩), .slice (some ⟨V2.heap.size, 0, none⟩) 1 1] (V2.alloc (.cells #[.int .i64 d, .string (mk s)] 127)) fun e w4 => e = .returned (.int .i64 (unfQ q [(d, s)])) ∧ Hid (Nw V2 w4)) := by
    have hA : Nw V2 (V2.alloc (.cells #[.int .i64 d, .string (mk s)] 127)) := (Fr.refl _ _).alloc _
    have := unfit_any (HC.out _ hA).1 V2.heap.size 0 [(d, s)] (rdp_one d s) (fun x hx => by rw [List.mem_singleton] at hx; subst hx; exact ⟨hd64, hs⟩) 1 (by simp) (by omega)
    exact this.mono (fun e w' hh => ⟨hh.1, hA.trans hh.2⟩)
  have HTg : Hid (∀ V, Calls Tryz.prog 121 #[.string (mk tgt)] V fun e w' => e = .returned (.bool (tgOk tgt)) ∧ V = w') := fun V => isTarget_any tgt V htl
  have HMt : Hid (∀ V, Nw V2 V → Calls Tryz.prog 104 #[mtV mt] V fun e w' => e = .returned (.bool (mtOk mt)) ∧ Hid (Nw V2 w')) := fun V hV => (isMeta_any mt V).mono (fun e w' hh => ⟨hh.1, hV.trans hh.2⟩)
  have HTail : Hid (∀ pd, q d = some pd → pd.kind = 1 → pd.ents s = none → ∀ V, Nw V2 V → ∃ W6, (Instr.mapUpdate 98 (.map (some mb)) (.int .i64 h.next) (.pointer (some ⟨ib, 0, none⟩))).run Tryz.prog (V.setCell ⟨fb, 4, none⟩ (.int .i64 (h.next + 1))) = .ok () W6 ∧ W6.cell? ⟨sb, 0, none⟩ = some (.int .i64 d) ∧ W6.cell? ⟨sb, 1, none⟩ = some (.string (mk s)) ∧ Hid (Calls Tryz.prog 100 #[.pointer (some ⟨fb, 0, none⟩), .agg #[.int .i64 d, .string (mk s)], .int .i64 h.next] W6 fun e w7 => (∃ r, e = .returned r) ∧ w7.cell? ⟨sb, 0, none⟩ = some (.int .i64 d) ∧ w7.cell? ⟨sb, 1, none⟩ = some (.string (mk s)) ∧ Hid (Calls Tryz.prog 97 #[.pointer (some ⟨fb, 0, none⟩), .agg (acC ⟨op, d, s, h.next, 0, [], 0, 0⟩)] w7 fun e w8 => (∃ r, e = .returned r) ∧ Hid (MutO fb mb ot L q { h with next := h.next + 1 } (addQ q d s h.next (newP kd mt tgt)) (cnt + 1) (T ++ [⟨op, d, s, h.next, 0, [], 0, 0⟩]) w0 w8)))) := fun pd hd hk hf V hV => by
    have hc := HC.out V hV
    exact add_tail H0 (HNw.out V hV) hfr hnx hT hcn hd64 hs hd hk hf (hneb pd hd) kd mt tgt ib eb sb (by omega) (by omega) (by omega) hc.2.1 hc.2.2.1 hc.2.2.2.2 (fun hk1 => ⟨(hE hk1).1, (hE hk1).2.nw ((hN1.trans hN2).trans hV)⟩) op
  have HAt : Hid (∀ pd, q d = some pd → pd.kind = 1 → ∀ V, Nw V2 V → Calls Tryz.prog 99 #[.pointer (some ⟨fb, 0, none⟩), .agg #[.int .i64 d, .string (mk s)]] V fun e w' => e = .returned (.int .i64 ((pd.ents s).getD 0)) ∧ Hid (Nw V2 w')) := fun pd hd hk V hV => (at_any (HC.out V hV).1 d hd64 s hs hd hk).mono (fun e w' hh => ⟨hh.1, hV.trans hh.2⟩)
  have HZ := tHid hzero
  have hfl : fb < w0.heap.size := H0.cs.lt
  have n1 : ¬ fb = sb := by omega
  have n2 : ¬ fb = ib := by omega
  have hib2 : w.heap.size + 1 = ib := by omega
  have HFE : Hid (∀ er V, er ≠ 0 → addE h q cnt d s kd mt tgt = er → Nw V2 V → P (.returned (.tuple #[.int .i64 0, .int .i64 er])) V) := fun er V h1 h2 hV => by
    rw [HP.out]
    subst h2
    exact .inl ⟨h1, rfl, HNw.out V hV⟩
  have HFO : Hid (∀ V, addE h q cnt d s kd mt tgt = 0 → MutO fb mb ot L q { h with next := h.next + 1 } (addQ q d s h.next (newP kd mt tgt)) (cnt + 1) (T ++ [⟨op, d, s, h.next, 0, [], 0, 0⟩]) w0 V → P (.returned (.tuple #[.int .i64 h.next, .int .i64 0])) V) := fun V h1 hm => by
    rw [HP.out]
    exact .inr ⟨h1, rfl, hm⟩
  have HFC : Hid (∀ V, Nw V2 V → HdC fb mb h V ∧ ∀ k ty, (Builtin.len_ #[98] ty #[.map (some mb)]).run Tryz.prog (V.drewN k) = .ok (.int .i64 cnt) (V.drewN k)) := fun V hV => ⟨(HC.out V hV).1.cs, fun k ty => ((HC.out V hV).1.nw ((Fr.refl _ _).drewN k)).len ty⟩
  have HCI : Hid (∀ V, Nw V2 V → V.cell? ⟨sb, 0, none⟩ = some (.int .i64 d) ∧ V.cell? ⟨sb, 1, none⟩ = some (.string (mk s)) ∧ V.cell? ⟨ib, 0, none⟩ = some (.int .i64 kd) ∧ V.cell? ⟨ib, 1, none⟩ = some (.int .u32 mt.mode) ∧ V.cell? ⟨ib, 2, none⟩ = some (.int .u32 mt.uid) ∧ V.cell? ⟨ib, 3, none⟩ = some (.int .u32 mt.gid) ∧ V.cell? ⟨ib, 4, none⟩ = some (.int .i64 mt.time) ∧ V.cell? ⟨ib, 5, none⟩ = some (.int .i32 mt.nano) ∧ V.cell? ⟨ib, 7, none⟩ = some (.string (mk tgt))) := fun V hV => by
    obtain ⟨_, k1, k2, _, k3⟩ := HC.out V hV
    exact ⟨k1, k2, (rc k3 0 _ rfl).1, (rc k3 1 _ rfl).1, (rc k3 2 _ rfl).1, (rc k3 3 _ rfl).1, (rc k3 4 _ rfl).1, (rc k3 5 _ rfl).1, (rc k3 7 _ rfl).1⟩
  have HQ1 : Hid (unfQ q [(d, s)] = 0 → ∃ pd, q d = some pd ∧ pd.kind = 1 ∧ nmOk s = true) := unfQ_one
  have HAE : Hid (addE h q cnt d s kd mt tgt = if unfQ q [(d, s)] ≠ 0 then unfQ q [(d, s)] else if kd = 3 ∧ tgOk tgt = false then 107 else if mtOk mt = false then 1 else if ((q d).bind (fun p => p.ents s)).isSome then 104 else if (cnt : Int) ≥ h.nodes ∨ h.next ≥ 1099511627776 then 105 else 0) := rfl
  have hnd : mk [] = ⟨#[]⟩ := rfl
  clear H0 hN0 hN1 hN2 hE hI0 hzero hneb hfr HC
  generalize addE h q cnt d s kd mt tgt = er at *
  generalize newE kd eb = ev at *
  obtain ⟨s0, s1, i0, i1, i2, i3, i4, i5, i7⟩ := HCI.out V2 (Fr.refl _ _)
  have HW1 := tHid hV1
  have HW2 := tHid hV2
  have HW3 := tHid hib2
  have HW4 := tHid hsb
  clear hV1 hV2 hib2 hsb hib hsz
  go_enter Tryz.func93, Tryz.ntmps93
  go_upto_region 1 with fail
  rw [← HW1.out, ← HW2.out, HW3.out, ← HW4.out]
  clear HW1 HW2 HW3 HW4
  go_upto_region 2 with (first | (go_at_call 98; with_reducible refine HU.out.mono ?_; rintro e w4 ⟨rfl, H4⟩))
  obtain ⟨s0', s1', i0', i1', i2', i3', i4', i5', i7'⟩ := HCI.out w4 H4.out
  clear HU s0 s1 i0 i1 i2 i3 i4 i5 i7
  by_cases hu : unfQ q [(d, s)] = 0
  · obtain ⟨pd, hd, hk, hnm⟩ := HQ1.out hu
    have HT := tHid (HTail.out pd hd hk)
    have HA := tHid (HAt.out pd hd hk)
    have HZ1 : Hid (∀ n, pd.ents s = some n → n ≠ 0) := fun n hn => HZ.out pd n hd hn
    have HAE1 := HAE.out
    rw [hu, hd] at HAE1
    simp only [ne_eq, not_true_eq_false, if_false, Option.bind_some] at HAE1
    have HAE2 := tHid HAE1
    have hent : Hid (pd.ents s = pd.ents s) := rfl
    rw [hu]
    clear HAE HAE1 HQ1 HTail HAt HZ hu hd hk hnm
    go_upto_region 4 with fail
    go_cut [20] (fun v wr => v = .bool (decide (kd = 3 ∧ tgOk tgt = false)) ∧ wr = w4)
    case first =>
      clear HT HA HZ1 HAE2 HFE HFO HFC HCI HMt HNw
      by_cases hk3 : kd = 3
      · subst hk3
        generalize tgOk tgt = Bt at *
        generalize mk tgt = tt at *
        go_wp2_with (first | (go_at_call 121; with_reducible refine (HTg.out _).mono ?_; rintro e w5 ⟨rfl, rfl⟩))
        go_meet
        exact ⟨by cases Bt <;> rfl, rfl⟩
      · have hkb : (kd == 3) = false := by rw [beq_eq_false_iff_ne]; exact hk3
        have hdd : decide (kd = 3 ∧ tgOk tgt = false) = false := decide_eq_false (fun hh => hk3 hh.1)
        go_wp2_with fail
        go_meet
        exact ⟨by rw [hdd], rfl⟩
    case rest =>
    obtain ⟨rfl, rfl⟩ := hcut
    by_cases h3 : kd = 3 ∧ tgOk tgt = false
    · have e1 := HAE2.out
      rw [if_pos h3] at e1
      have HF := tHid (HFE.out er wc (by rw [e1]; decide) rfl H4.out)
      rw [e1] at HF
      rw [decide_eq_true h3]
      clear HT HA HZ1 HAE2 HFE HFO HFC HCI HMt HNw e1
      go_wp2_with fail
      exact HF.out
    · have e1 := HAE2.out
      rw [if_neg h3] at e1
      have HAE3 := tHid e1
      rw [decide_eq_false h3]
      clear e1 HAE2 h3 HTg
      have HM := tHid (HMt.out wc H4.out)
      obtain ⟨Bm, hBm⟩ : ∃ Bm, mtOk mt = Bm := ⟨_, rfl⟩
      rw [hBm] at HM HAE3
      clear HMt
      cases Bm with
      | false =>
        have e1 := HAE3.out
        rw [if_pos rfl] at e1
        have HF : Hid (∀ V, Nw V2 V → P (.returned (.tuple #[.int .i64 0, .int .i64 1])) V) := fun V hV => by
          have := HFE.out er V (by rw [e1]; decide) rfl hV
          rw [e1] at this
          exact this
        clear HT HA HZ1 HAE3 HFE HFO HFC HCI HNw e1
        go_wp2_with (first | (go_at_call 104; with_reducible refine HM.out.mono ?_; rintro e w5 ⟨rfl, H5⟩))
        exact HF.out _ H5.out
      | true =>
        have e1 := HAE3.out
        rw [if_neg (by decide)] at e1
        have HAE4 := tHid e1
        clear e1 HAE3
        go_upto_region 8 with (first | (go_at_call 104; with_reducible refine HM.out.mono ?_; rintro e w5 ⟨rfl, H5⟩))
        clear s0' s1' i0' i1' i2' i3' i4' i5' i7'
        obtain ⟨s0, s1, i0, _⟩ := HCI.out w5 H5.out
        have HA5 := tHid (HA.out w5 H5.out)
        clear HA HM
        obtain ⟨oe, hoe⟩ : ∃ oe, pd.ents s = oe := ⟨_, rfl⟩
        rw [hoe] at HA5 HT HZ1
        simp only [hoe] at HAE4
        clear hent hoe
        cases oe with
        | some y =>
          have e1 := HAE4.out
          simp only [Option.isSome_some, if_true] at e1
          have hy : y ≠ 0 := HZ1.out y (by first | trivial | rfl)
          have hyb : (y == 0) = false := by rw [beq_eq_false_iff_ne]; exact hy
          have HF : Hid (∀ V, Nw V2 V → P (.returned (.tuple #[.int .i64 0, .int .i64 104])) V) := fun V hV => by
            have := HFE.out er V (by rw [e1]; decide) rfl hV
            rw [e1] at this
            exact this
          simp only [Option.getD_some] at HA5
          clear HT HZ1 HAE4 HFE HFO HFC HCI HNw e1
          go_wp2_with (first | (go_at_call 99; with_reducible refine HA5.out.mono ?_; rintro e w6 ⟨rfl, H6⟩))
          exact HF.out _ H6.out
        | none =>
          have e1 := HAE4.out
          simp only [Option.isSome_none, Bool.false_eq_true, if_false] at e1
          have HAE5 := tHid e1
          simp only [Option.getD_none] at HA5
          clear e1 HAE4 HZ1
          go_upto_region 10 with (first | (go_at_call 99; with_reducible refine HA5.out.mono ?_; rintro e w6 ⟨rfl, H6⟩))
          clear s0 s1 i0
          obtain ⟨hC, hlen⟩ := HFC.out w6 H6.out
          have c0 := hC.c0
          have c1 := hC.c1
          have c4 := hC.c4
          clear hC
          by_cases hfull : h.nodes ≤ (cnt : Int)
          · have hfd : decide (h.nodes ≤ (cnt : Int)) = true := decide_eq_true hfull
            have e1 := HAE5.out
            rw [if_pos (.inl hfull)] at e1
            have HF : Hid (∀ V, Nw V2 V → P (.returned (.tuple #[.int .i64 0, .int .i64 105])) V) := fun V hV => by
              have := HFE.out er V (by rw [e1]; decide) rfl hV
              rw [e1] at this
              exact this
            clear HT HAE5 HFE HFO HFC HCI HNw e1
            go_quiet (fail)
            go_wp2_with fail
            exact HF.out _ (H6.out.drewN _)
          · have hfd : decide (h.nodes ≤ (cnt : Int)) = false := decide_eq_false hfull
            by_cases hlast : 1099511627776 ≤ h.next
            · have hld : decide (1099511627776 ≤ h.next) = true := decide_eq_true hlast
              have e1 := HAE5.out
              rw [if_pos (.inr hlast)] at e1
              have HF : Hid (∀ V, Nw V2 V → P (.returned (.tuple #[.int .i64 0, .int .i64 105])) V) := fun V hV => by
                have := HFE.out er V (by rw [e1]; decide) rfl hV
                rw [e1] at this
                exact this
              clear HT HAE5 HFE HFO HFC HCI HNw e1
              go_quiet (fail)
              go_wp2_with fail
              exact HF.out _ (H6.out.drewN _)
            · have hld : decide (1099511627776 ≤ h.next) = false := decide_eq_false hlast
              have e1 := HAE5.out
              rw [if_neg (fun hh => hh.elim hfull hlast)] at e1
              have HF := tHid (fun V hm => HFO.out V e1 hm)
              have HT6 := tHid (HT.out (by first | trivial | rfl))
              clear HT HAE5 HFE HFO HCI HNw e1
              go_quiet (fail)
              go_upto_region 13 with fail
              have hN6 : Nw V2 (w6.drewN nq) := H6.out.drewN nq
              generalize w6.drewN nq = V6 at *
              obtain ⟨hC6, _⟩ := HFC.out V6 hN6
              obtain ⟨W6, hmu, s06, s16, HE⟩ := HT6.out V6 hN6
              have c06 := hC6.c0
              have c46 := hC6.c4
              have f46 := hC6.f4
              obtain ⟨W5, hW5⟩ : ∃ W5, V6.setCell ⟨fb, 4, none⟩ (.int .i64 (h.next + 1)) = W5 := ⟨_, rfl⟩
              have c05 : W5.cell? ⟨fb, 0, none⟩ = some (.map (some mb)) := by
                rw [← hW5, World.cell?_setCell_other _ _ _ _ (by simp)]
                exact c06
              rw [hW5] at hmu
              have hwr : IntKind.i64.wrap (h.next + 1) = h.next + 1 := by rw [IntKind.wrap_i64]; omega
              clear hC6 HFC HT6 hN6 c0 c1 c4 hlen
              go_upto_region 14 with fail
              clear hW5 c06 c46 f46
              go_upto_region 16 with (first | (go_at_call 100; with_reducible refine HE.out.mono ?_; rintro e w7 ⟨⟨r7, rfl⟩, s07, s17, HD⟩))
              unfold acC at HD
              simp only [hnd] at HD
              go_wp2_with (first | (go_at_call 97; with_reducible refine HD.out.mono ?_; rintro e w8 ⟨⟨r8, rfl⟩, HM8⟩))
              exact HF.out _ HM8.out
  · have e1 := HAE.out
    rw [if_pos hu] at e1
    have HF := tHid (HFE.out er w4 (by rw [e1]; exact hu) rfl H4.out)
    rw [e1] at HF
    have hub : (unfQ q [(d, s)] == 0) = false := by rw [beq_eq_false_iff_ne]; exact hu
    clear HAE HFE HFO HFC HCI HMt HNw HQ1 HTail HAt HZ e1
    generalize unfQ q [(d, s)] = u at *
    go_wp2_with fail
    exact HF.out
end Go.Proofs.YtcogkhcfpgelhaaGreat
