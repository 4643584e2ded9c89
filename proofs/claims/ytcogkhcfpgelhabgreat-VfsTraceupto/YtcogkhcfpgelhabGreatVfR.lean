import Derived.Test.YtcogkhcfpgelhabGreatVfQ
namespace Go.Proofs.YtcogkhcfpgelhabGreat
open Go.RowKit
set_option linter.unusedVariables false
set_option maxRecDepth 100000
variable {fb mb : Nat} {ot : Option Nat} {L : Int → Lay} {h : Hx} {q : Int → Option Pn} {cnt : Nat} {T : List Ac} {w w' : World} {X : Nat → Prop}
/-- Bytes of another size. -/
def rszD (l : List By) (n : Nat) : List By := if l.length ≤ n then l ++ List.replicate (n - l.length) 0#8 else l.take n
theorem rszD_len (l : List By) (n : Nat) : (rszD l n).length = n := by
  unfold rszD
  split
  · simp; omega
  · rw [List.length_take]; omega
def rszP (p : Pn) (n : Nat) : Pn := { p with data := rszD p.data n }
def rszH (h : Hx) (p : Pn) (n : Nat) : Hx := { h with held := h.held + ((n : Int) - (p.data.length : Int)) }
/-- The inodes lie where they lay, but maybe the data of one. -/
def LayTo (L L' : Int → Lay) (k : Int) (w : World) : Prop := ∀ j, (L' j).ib = (L j).ib ∧ (L' j).eb = (L j).eb ∧ ∀ g, (L' j).od = some g → (L j).od = some g ∨ w.heap.size ≤ g
def RszO (fb mb : Nat) (ot : Option Nat) (L : Int → Lay) (h : Hx) (q : Int → Option Pn) (cnt : Nat) (T : List Ac) (k : Int) (p : Pn) (n : Nat) (w w' : World) : Prop := ∃ L', FsH fb mb ot L' (rszH h p n) (fun j => if j = k then some (rszP p n) else q j) cnt T w' ∧ Fr (fun b => b = fb ∨ b = (L k).ib ∨ (L k).od = some b) w w' ∧ LayTo L L' k w
theorem lay_turn {k : Int} {od' : Option Nat} (ho : ∀ g, od' = some g → (L k).od = some g ∨ w.heap.size ≤ g) : LayTo L (fun j => if j = k then ⟨(L k).ib, (L k).eb, od'⟩ else L j) k w := fun j => by
  by_cases hj : j = k
  · subst hj
    simp only [if_pos]
    exact ⟨trivial, trivial, ho⟩
  · simp only [if_neg hj]
    exact ⟨trivial, trivial, fun g hg => .inl hg⟩
/-- The data of an inode, put in its cell. -/
theorem rsz_set (H : FsH fb mb ot L h q cnt T w) {k : Int} {p : Pn} (hk : q k = some p) {W : World} {od' : Option Nat} (f : Fr (fun b => (L k).od = some b) w W) (ho : ∀ g, od' = some g → (L k).od = some g ∨ w.heap.size ≤ g) {v : Value} {d' : List By} (hO : OgB od' v d' W) :
    FsH fb mb ot (fun j => if j = k then ⟨(L k).ib, (L k).eb, od'⟩ else L j) h (fun j => if j = k then some { p with data := d' } else q j) cnt T (W.setCell ⟨(L k).ib, 6, none⟩ v) := by
  obtain ⟨dv, ev, k1, k2, k3, k4⟩ := (H.nd k p hk).blk
  have t1 := tg_cells k1
  have hib : (L k).od ≠ some (L k).ib := fun e => by
    have := H.tod hk _ e
    rw [t1] at this; cases this
  have hib' : od' ≠ some (L k).ib := fun e => by
    rcases ho _ e with e2 | hg
    · exact hib e2
    · have := blt k1; omega
  have f2 : Fr (fun b => b = (L k).ib) W (W.setCell ⟨(L k).ib, 6, none⟩ v) := (Fr.refl (fun b => b = (L k).ib) W).setCell ⟨(L k).ib, 6, none⟩ _ (.inl rfl)
  have fA : Fr (fun b => b = (L k).ib ∨ (L k).od = some b) w (W.setCell ⟨(L k).ib, 6, none⟩ v) := (f.mono (fun i e => .inl (.inr e))).trans (f2.mono (fun i e => .inl (.inl e)))
  refine H.turn hk (p' := { p with data := d' }) rfl ho fA (fun b e => e.imp id (fun e => .inr e)) ⟨v, ev, ?_, ?_, fun hk1 => ⟨(k3 hk1).1, ?_⟩, k4⟩
  · have := rset (f.heap k1 (fun e => hib e)) 6 v
    exact this
  · exact hO.kept f2 (fun g hg e => hib' (by rw [hg, e]))
  · refine (k3 hk1).2.kept fA (fun e => ?_)
    have hm := (k3 hk1).2.tg
    rcases e with e | e
    · rw [e, t1] at hm; cases hm
    · rw [H.tod hk _ e] at hm; cases hm
set_option maxHeartbeats 8000000 in
theorem resize_any (H : FsH fb mb ot L h q cnt T w) {k : Int} {p : Pn} (hk : q k = some p) (n : Nat) (hn : n ≤ 4194304) (hd : p.data.length ≤ 4194304) (hh : 0 ≤ h.held ∧ h.held ≤ 1000000000000) (hb : 0 ≤ h.bytes ∧ h.bytes ≤ 1000000000000) :
    Calls Tryz.prog 52 #[.pointer (some ⟨fb, 0, none⟩), .pointer (some ⟨(L k).ib, 0, none⟩), .int .i64 n] w fun e w' => (h.bytes - h.held < (n : Int) - (p.data.length : Int) ∧ e = .returned (.int .i64 105) ∧ Nw w w') ∨ (¬ h.bytes - h.held < (n : Int) - (p.data.length : Int) ∧ e = .returned (.int .i64 0) ∧ RszO fb mb ot L h q cnt T k p n w w') := by
  obtain ⟨P, hP⟩ : ∃ P : Ending → World → Prop, P = fun e w' => (h.bytes - h.held < (n : Int) - (p.data.length : Int) ∧ e = .returned (.int .i64 105) ∧ Nw w w') ∨ (¬ h.bytes - h.held < (n : Int) - (p.data.length : Int) ∧ e = .returned (.int .i64 0) ∧ RszO fb mb ot L h q cnt T k p n w w') := ⟨_, rfl⟩
  rw [← hP]
  obtain ⟨dv, ev, k1, k2, k3, k4⟩ := (H.nd k p hk).blk
  obtain ⟨da, dc, rfl, hdc1, hdc2⟩ := k2.form
  have x6 := (ndc_of k1).c6
  have hC := H.cs
  have c2 := hC.c2
  have c3 := hC.c3
  have f3 := hC.f3
  have hne : ¬ fb = (L k).ib := fun e => by have := H.tib hk; rw [← e, H.tfb] at this; cases this
  have hne2 : ¬ (L k).ib = fb := fun e => hne e.symm
  have hw1 : IntKind.i64.wrap ((n : Int) - (p.data.length : Int)) = (n : Int) - (p.data.length : Int) := by rw [IntKind.wrap_i64]; omega
  have hw2 : IntKind.i64.wrap (h.bytes - h.held) = h.bytes - h.held := by rw [IntKind.wrap_i64]; omega
  have hw3 : IntKind.i64.wrap (h.held + ((n : Int) - (p.data.length : Int))) = h.held + ((n : Int) - (p.data.length : Int)) := by rw [IntKind.wrap_i64]; omega
  by_cases hmore : h.bytes - h.held < (n : Int) - (p.data.length : Int)
  · have HF : Hid (∀ V, Nw w V → P (.returned (.int .i64 105)) V) := fun V hV => by rw [hP]; exact .inl ⟨hmore, rfl, hV⟩
    have hmd := decide_eq_true hmore
    clear H hC k1 k2 k3 k4 hP
    generalize (L k).ib = ib at *
    generalize p.data.length = dl at *
    go_enter Tryz.func52, Tryz.ntmps52
    go_upto_region 2 with fail
    go_quiet (fail)
    go_wp2_with fail
    exact HF.out _ ((Fr.refl _ _).drewN _)
  · have hmd := decide_eq_false hmore
    have HS : Hid (∀ V, Nw w V → ∃ W1, V.setCell ⟨fb, 3, none⟩ (.int .i64 (h.held + ((n : Int) - (p.data.length : Int)))) = W1 ∧ V.cell? ⟨fb, 3, none⟩ = some (.int .i64 h.held) ∧ V.frozen? ⟨fb, 3, none⟩ = false ∧ W1.cell? ⟨(L k).ib, 6, none⟩ = some (.slice da p.data.length dc) ∧ W1.frozen? ⟨(L k).ib, 6, none⟩ = false ∧ Hid (FsH fb mb ot L (rszH h p n) q cnt T W1 ∧ Fr (fun b => b = fb) w W1)) := fun V hV => by
      have HV := H.nw hV
      obtain ⟨tv, v1, v2⟩ := HV.blk
      have f1 : Fr (fun b => b = fb) V (V.setCell ⟨fb, 3, none⟩ (.int .i64 (h.held + ((n : Int) - (p.data.length : Int))))) := (Fr.refl (fun b => b = fb) V).setCell ⟨fb, 3, none⟩ _ (.inl rfl)
      have hfo : ot ≠ some fb := fun e => by
        have t1 := HV.tot fb e
        rw [HV.tfb] at t1; cases t1
      have H1 : FsH fb mb ot L (rszH h p n) q cnt T (V.setCell ⟨fb, 3, none⟩ (.int .i64 (h.held + ((n : Int) - (p.data.length : Int))))) :=
        HV.head f1 (fun k e => .inl e) (.inl rfl) (tv := tv) (rset v1 3 _) (v2.kept f1 (fun g hg e => hfo (by rw [hg, e])))
      have kk := f1.heap (hV.heap k1) (fun e => hne e.symm)
      exact ⟨_, rfl, HV.cs.c3, HV.cs.f3, (rc kk 6 _ rfl).1, (rc kk 6 _ rfl).2, H1, hV.any.trans f1⟩
    by_cases hge : p.data.length ≤ n
    · obtain ⟨K, hK⟩ : ∃ K, K = n - p.data.length := ⟨_, rfl⟩
      have zK : (n : Int) - (p.data.length : Int) = (K : Int) := by omega
      have HZ : Hid (∀ W1, FsH fb mb ot L (rszH h p n) q cnt T W1 → Fr (fun b => b = fb) w W1 → W1.cell? ⟨(L k).ib, 6, none⟩ = some (.slice da p.data.length dc) → ∃ a' n' c' W2, Hid (∀ ty, (Builtin.append_ #[38, 3] ty #[.slice da p.data.length dc, .int .i64 K]).run Tryz.prog W1 = .ok (.slice a' n' c') W2) ∧ W2.frozen? ⟨(L k).ib, 6, none⟩ = false ∧ (∃ u, W2.cell? ⟨(L k).ib, 6, none⟩ = some u) ∧ Hid (P (.returned (.int .i64 0)) (W2.setCell ⟨(L k).ib, 6, none⟩ (.slice a' n' c')))) := fun W1 H1 f1 hx => by
        obtain ⟨dv1, ev1, m1, m2, _, _⟩ := (H1.nd k p hk).blk
        have e6 := (ndc_of m1).c6
        rw [hx] at e6
        injection e6 with e6
        rw [← e6] at m2
        obtain ⟨v', od', W2, r1, r2, r3, r4⟩ := app_zeros W1 (L k).od _ p.data m2 K (by omega)
        obtain ⟨a', c', rfl, _, _⟩ := r2.form
        have hib : (L k).od ≠ some (L k).ib := fun e => by
          have := H1.tod hk _ e
          rw [tg_cells m1] at this; cases this
        have kk := r3.heap m1 (fun e => hib e)
        refine ⟨a', _, c', W2, r1, (rc kk 6 _ rfl).2, ⟨_, (rc kk 6 _ rfl).1⟩, ?_⟩
        show P _ _
        rw [hP]
        have r5 : ∀ g, od' = some g → (L k).od = some g ∨ W1.heap.size ≤ g := fun g hg => by
          rcases r4 with e | ⟨g', e, hg'⟩
          · exact .inl (e ▸ hg)
          · rw [e] at hg; injection hg with hg; exact .inr (by omega)
        have hR := rsz_set H1 hk r3 r5 r2
        have hD : { p with data := p.data ++ List.replicate K 0#8 } = rszP p n := by
          unfold rszP rszD
          rw [if_pos hge, hK]
        rw [hD] at hR
        have hs1 := f1.size
        refine .inr ⟨hmore, rfl, _, hR, ?_, lay_turn (fun g hg => (r5 g hg).imp id (fun hg => by omega))⟩
        have fa : Fr (fun b => b = fb ∨ b = (L k).ib ∨ (L k).od = some b) w W2 := (f1.mono (fun i e => .inl (.inl e))).trans (r3.mono (fun i e => .inl (.inr (.inr e))))
        exact fa.setCell _ _ (.inl (.inr (.inl rfl)))
      rw [zK] at hw1 hw3 hmd HS
      have zg : (0 : Int) ≤ (K : Int) := by omega
      have zz : (n : Int) - (p.data.length : Int) = (K : Int) := zK
      clear H hC k1 k2 k3 k4 hP hmore hge hK zK
      generalize (L k).ib = ib at *
      generalize p.data.length = dl at *
      go_enter Tryz.func52, Tryz.ntmps52
      go_upto_region 2 with fail
      go_quiet (fail)
      go_upto_region 4 with fail
      obtain ⟨W1, hW1, c31, f31, x61, g61, HH1⟩ := HS.out (w.drewN nq) ((Fr.refl _ _).drewN nq)
      obtain ⟨a', n', c', W2, HAP, g62, ⟨u, x62⟩, HF⟩ := HZ.out W1 HH1.out.1 HH1.out.2 x61
      clear HS HZ HH1
      go_wp2_with (first
        | (at_builtin; refine Lib.wpList_append_run _ rfl _ _ 38 3 rfl (.slice da dl dc) (.int .i64 K) (by simp [Act.eval]) (by simp [Act.eval]) _ _ (HAP.out _) ?_))
      exact HF.out
    · have zK : ¬ (0 : Int) ≤ (n : Int) - (p.data.length : Int) := by omega
      have hnl : n ≤ p.data.length := by omega
      have hda : ∃ g, (L k).od = some g ∧ da = some ⟨g, 0, none⟩ := by
        cases hod : (L k).od with
        | none =>
          rw [hod] at k2
          have := k2.2
          rw [this] at hge; simp at hge
        | some g =>
          rw [hod] at k2
          obtain ⟨xs, e, _⟩ := (k2 : Ow g _ _ _)
          injection e with e
          exact ⟨g, rfl, e⟩
      obtain ⟨g, hod, rfl⟩ := hda
      have HZ : Hid (∀ W1, FsH fb mb ot L (rszH h p n) q cnt T W1 → Fr (fun b => b = fb) w W1 → W1.cell? ⟨(L k).ib, 6, none⟩ = some (.slice (some ⟨g, 0, none⟩) p.data.length dc) → Calls Tryz.prog 40 #[.slice (some ⟨g, 0, none⟩) n dc] W1 fun e w2 => ∃ a' c', e = .returned (.slice a' n c') ∧ w2.frozen? ⟨(L k).ib, 6, none⟩ = false ∧ (∃ u, w2.cell? ⟨(L k).ib, 6, none⟩ = some u) ∧ Hid (P (.returned (.int .i64 0)) (w2.setCell ⟨(L k).ib, 6, none⟩ (.slice a' n c')))) := fun W1 H1 f1 hx => by
        obtain ⟨dv1, ev1, m1, m2, _, _⟩ := (H1.nd k p hk).blk
        have e6 := (ndc_of m1).c6
        rw [hx] at e6
        injection e6 with e6
        rw [← e6] at m2
        have m3 := m2
        rw [hod] at m3
        obtain ⟨c9, e9, h91, h92, h93⟩ := Ow.cut (m3 : Ow g _ _ _) n hnl
        have e10 : dc = c9 := by injection e9
        subst e10
        refine (bcl_any W1 _ n dc (p.data.take n) (by rw [List.length_take]; omega) (.inr ⟨g, fun h => h, h93.slb⟩) (by rw [List.length_take]; omega)).mono ?_
        rintro e w2 ⟨a', c', od', rfl, r2, r3, r4⟩
        have kk := r3.heap m1
        refine ⟨a', c', rfl, (rc kk 6 _ rfl).2, ⟨_, (rc kk 6 _ rfl).1⟩, ?_⟩
        show P _ _
        rw [hP]
        have hR := rsz_set (od' := od') H1 hk (r3.any (X := fun b => (L k).od = some b)) (fun g hg => .inr (r4 g hg)) r2
        have hD : { p with data := p.data.take n } = rszP p n := by
          unfold rszP rszD
          rw [if_neg hge]
        rw [hD] at hR
        have hs1 := f1.size
        refine .inr ⟨hmore, rfl, _, hR, ?_, lay_turn (fun g hg => .inr (by have := r4 g hg; omega))⟩
        have fa : Fr (fun b => b = fb ∨ b = (L k).ib ∨ (L k).od = some b) w w2 := (f1.mono (fun i e => .inl (.inl e))).trans r3.any
        exact fa.setCell _ _ (.inl (.inr (.inl rfl)))
      have hkd : decide ((0 : Int) ≤ (n : Int) - (p.data.length : Int)) = false := decide_eq_false zK
      have zn : (n : Int) ≤ (dc : Int) := by omega
      have zn2 : n ≤ dc := by omega
      have zn3 : (0 : Int) ≤ (n : Int) := by omega
      clear H hC k1 k2 k3 k4 hP hmore hod
      generalize (L k).ib = ib at *
      generalize p.data.length = dl at *
      obtain ⟨mr, hmr⟩ : ∃ mr, (n : Int) - (dl : Int) = mr := ⟨_, rfl⟩
      rw [hmr] at hw1 hw3 hmd hkd HS
      clear zK
      go_enter Tryz.func52, Tryz.ntmps52
      go_upto_region 2 with fail
      go_quiet (fail)
      go_upto_region 4 with fail
      obtain ⟨W1, hW1, c31, f31, x61, g61, HH1⟩ := HS.out (w.drewN nq) ((Fr.refl _ _).drewN nq)
      have HZ2 := tHid (HZ.out W1 HH1.out.1 HH1.out.2 x61)
      clear HS HZ HH1
      go_wp2_with (first | (go_at_call 40; with_reducible refine HZ2.out.mono ?_; rintro e w2 ⟨a', c', rfl, g62, ⟨u, x62⟩, HF⟩))
      exact HF.out
end Go.Proofs.YtcogkhcfpgelhabGreat
