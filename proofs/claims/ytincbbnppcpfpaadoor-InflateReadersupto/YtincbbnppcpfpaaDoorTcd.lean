import Derived.Test.YtincbbnppcpfpaaDoorTca
import Derived.Test.YtincbbnppcpfpaaDoorTcb
import Derived.Test.YtincbbnppcpfpaaDoorTax
import Derived.Test.YtincbbnppcpfpaaDoorTcc
import Derived.BigRegion
namespace Go.Proofs.YtincbbnppcpfpaaDoor
open Go.RowKit
set_option linter.unusedVariables false
variable {sb ga cg most p er : Nat} {b out : List By} {og : Option Nat} {vo : Value} {w : World} {ls : List Nat}
/-- append, by another name, so that the walk leaves it as it is. -/
def appD (tys : Array TypeId) (ty : TypeId) (args : Array Value) : Sem Value := Builtin.append_ tys ty args
theorem app_foldD (tys : Array TypeId) (ty : TypeId) (args : Array Value) : Builtin.append_ tys ty args = appD tys ty args := rfl
theorem dfb_pos : ∀ n, 1 ≤ (dfb n).1
  | 0 => by decide
  | n + 1 => Nat.le_trans (dfb_pos n) (Nat.le_add_right _ _)
/-- A match. -/
noncomputable def mtR (most : Nat) (s : Sx) (y : Nat) : Rdr Sx := if y ≤ 285 then bindR (lenR y) fun n => bindR (distR s.lb) fun d => if s.out.length < d then failR 64 else if most - s.out.length < n then failR 32 else retR { s with out := copyN d n s.out } else failR 63
/-- What it answers. -/
def MtA (sb ga cg : Nat) (b : List By) (most p : Nat) (og : Option Nat) (s : Sx) (R : Rz (Sx × Bt)) (w : World) (e : Ending) (w' : World) : Prop := (∃ r, e = .returned r) ∧ Hid (∃ p' er' og' vo' out', p ≤ p' ∧ DsI sb ga cg b most p' og' vo' out' er' w' ∧ Went og og' w ∧ Fr (fun k => k = sb ∨ og = some k) w w' ∧ ((er' ≠ 0 ∧ R = .bad er' ∧ out' = s.out) ∨ (er' = 0 ∧ R = .ok ({ s with out := out' }, bt b p'))))
/-- How the copying stands. -/
def CpI (sb ga cg : Nat) (b : List By) (most p : Nat) (og : Option Nat) (out : List By) (d : Nat) (w : World) (K : Nat) (a : Option Addr) (c : Nat) (wr : World) : Prop :=
  ∃ og', DsI sb ga cg b most p og' (.slice a (out.length + K) c) (copyN d K out) 0 wr ∧ Went og og' w ∧ Fr (fun k => k = sb ∨ og = some k) w wr
theorem CpI.step {a : Option Addr} {c d K : Nat} {wr : World} (h : CpI sb ga cg b most p og out d w K a c wr) (hd1 : 1 ≤ d) (hd2 : d ≤ out.length) (hK : out.length + K < most) :
    ∃ (z : By) (g o : Nat), a = some ⟨g, o, none⟩ ∧ out.length + K ≤ c ∧ c < 9223372036854775808 ∧ wr.cell? ⟨g, o + (out.length + K - d), none⟩ = some (.int .u8 z.toNat) ∧ wr.cell? ⟨sb, 2, none⟩ = some (.slice a (out.length + K) c) ∧ (∀ ob, (wr.alloc ob).cell? ⟨sb, 2, none⟩ = some (.slice a (out.length + K) c)) ∧ ∃ a' c' W, Hid (∀ ty, (Builtin.append_ #[22, 22] ty #[.slice a (out.length + K) c, .slice (some ⟨wr.heap.size, 0, none⟩) 1 1]).run Tryd.prog (wr.alloc (.cells #[.int .u8 z.toNat] 5)).drew = .ok (.slice a' (out.length + K + 1) c') W) ∧ W.cell? ⟨sb, 2, none⟩ = some (.slice a (out.length + K) c) ∧ W.frozen? ⟨sb, 2, none⟩ = false ∧ Hid (CpI sb ga cg b most p og out d w (K + 1) a' c' (W.setCell ⟨sb, 2, none⟩ (.slice a' (out.length + K + 1) c'))) := by
  obtain ⟨og', h1, h2, h3⟩ := h
  obtain ⟨z, hz⟩ : ∃ z, z = (copyN d K out).getD (out.length + K - d) 0#8 := ⟨_, rfl⟩
  have hlen := copyN_length d K out
  have hsl := h1.ho.sl
  have hml := h1.ml
  obtain ⟨o1, o2, e1, c1, c2⟩ := h1.ho.form
  rw [hlen] at e1 c1
  injection e1 with e1 e2 e3
  subst e1 e3
  have hat : (copyN d K out)[out.length + K - d]? = some z := by
    rw [hz, List.getD_eq_getElem?_getD, List.getElem?_eq_getElem (by rw [hlen]; omega)]; rfl
  obtain ⟨g, o, ha, hcell⟩ : ∃ g o, a = some ⟨g, o, none⟩ ∧ wr.cell? ⟨g, o + (out.length + K - d), none⟩ = some (.int .u8 z.toNat) := by
    rcases hsl with ⟨a', e, e'⟩ | ⟨g, _, o, c', e, _, _, hr⟩
    · rw [e'] at hlen; simp at hlen; omega
    · injection e with e
      exact ⟨g, o, e, hr.at _ _ hat⟩
  obtain ⟨v', og2, W, k1, k2, k3, k4⟩ := og_step wr.drew og' _ _ (h1.ho.nw (Fr.refl _ _).drew) (by rw [hlen]; omega) z _ rfl
  have hcs := copyN_succ d K out
  rw [hlen, ← hz] at hcs
  rw [← hcs] at k2
  obtain ⟨a', c', rfl, _⟩ := k2.form
  rw [copyN_length, ← Nat.add_assoc] at k1 k2
  obtain ⟨j1, j2⟩ := (h1.nw (Fr.refl _ _).drew).setO k3 k2 k4 (by rw [copyN_length]; omega)
  have hrow := row_kept (h1.nw (Fr.refl _ _).drew).row k3 (fun e => (h1.n2 sb e).1 rfl)
  have hN : Nw wr wr.drew := (Fr.refl _ _).drew
  refine ⟨z, g, o, ha, c1, c2, hcell, (ds2 h1).1, fun ob => Nw.cell ((Fr.refl _ _).alloc _) (ds2 h1).1, a', c', W, k1, (row_cell hrow 2 _ rfl).1, (row_cell hrow 2 _ rfl).2, og2, by rw [← Nat.add_assoc]; exact j1, h2.trans k4 h3.size, ?_⟩
  refine Fr.then h3 (hN.any.trans j2) (fun i hi => ?_)
  rcases hi with hi | hi
  · exact .inl (.inl hi)
  · rcases h2 with e | ⟨g', e, hg⟩
    · exact .inl (.inr (by rw [← e]; exact hi))
    · rw [e] at hi; injection hi with hi; subst hi; exact .inr hg
attribute [local go_sem ↓] app_foldD
set_option maxHeartbeats 64000000 in
set_option maxRecDepth 100000 in
theorem hmatch_any (s : Sx) (h : DsI sb ga cg b most p og vo s.out 0 w) (y : Nat) (hy : 256 < y) (hy2 : y ≤ 320) (v : Value) (hv : SlR RI (fun k => w.heap.size ≤ k ∨ k = sb) v (toI s.lb) w) (h15 : ∀ i, s.lb.getD i 0 ≤ 15) (hl : s.lb.length ≤ 320) (hk : sumL s.lb = 0 ∨ Cod s.lb) (R : Rz (Sx × Bt)) (hc : R = mtR most s y (bt b p)) :
    Calls Tryd.prog 49 #[.pointer (some ⟨sb, 0, none⟩), .int .i64 y, v] w (MtA sb ga cg b most p og s R w) := by
  obtain ⟨P, hP⟩ : ∃ P, P = MtA sb ga cg b most p og s R w := ⟨_, rfl⟩
  rw [← hP]
  have HX : Hid (∀ V r p' er', p ≤ p' → er' ≠ 0 → R = .bad er' → DsI sb ga cg b most p' og vo s.out er' V → Fr (fun k => k = sb) w V → P (.returned r) V) := fun V r p' er' h1 h2 h3 h4 h5 => by
    rw [hP]; exact ⟨⟨_, rfl⟩, p', er', og, vo, s.out, h1, h4, Went.refl _ _, h5.mono (fun i hi => .inl (.inl hi)), .inl ⟨h2, h3, rfl⟩⟩
  obtain ⟨x4, y4⟩ := ds4 h
  by_cases h285 : y ≤ 285
  · rw [mtR, if_pos h285, lenR_eq y (by omega) h285, bindR_assoc] at hc
    simp only [bindR_ret] at hc
    have hlf := lfs_le y (by omega) h285
    have HL : Hid (Calls Tryd.prog 57 #[.int .i64 y] w fun e w' => e = .returned (.tuple #[.int .i64 (lfs y).1, .int .i64 (lfs y).2]) ∧ w = w') := glength_any w y (by omega) h285
    obtain ⟨f1, hf1⟩ : ∃ f1, f1 = (lfs y).1 := ⟨_, rfl⟩
    obtain ⟨m1, hm1⟩ : ∃ m1, m1 = (lfs y).2 := ⟨_, rfl⟩
    rw [← hf1, ← hm1] at hc hlf HL
    clear hf1 hm1
    have HB : Hid (Calls Tryd.prog 36 #[.pointer (some ⟨sb, 0, none⟩), .int .i64 m1] w (BtA sb ga cg b most p og vo s.out w m1 R (fun x => bindR (distR s.lb) fun d => if s.out.length < d then failR 64 else if most - s.out.length < f1 + x then failR 32 else retR { s with out := copyN d (f1 + x) s.out }))) := hbits_any h m1 (by omega) R _ (.inr ⟨rfl, hc⟩)
    have HV : Hid (∀ V, Fr (fun k => k = sb) w V → SlR RI (fun k => V.heap.size ≤ k) v (toI s.lb) V) := fun V hV => (hv.kept hV (fun g hg => .inr hg)).mono (fun g hg => .inl (Nat.le_trans hV.size hg))
    have H15 : Hid (∀ i, s.lb.getD i 0 ≤ 15) := h15
    have HK : Hid (sumL s.lb = 0 ∨ Cod s.lb) := hk
    have hp8 : 2 ^ m1 ≤ 2 ^ 6 := Nat.pow_le_pow_right (by decide) hlf.2
    have HP : Hid (P = MtA sb ga cg b most p og s R w) := hP
    obtain ⟨av, cv, rfl, _⟩ := hv.form
    rw [toI_length] at *
    generalize hLB : s.lb.length = LB at *
    have HLB : Hid (s.lb.length = LB) := hLB
    clear hP h hc hv h15 hk hLB x4 y4
    go_enter Tryd.func49, Tryd.ntmps49
    go_upto_region 4 with (first
      | (go_at_call 57; (with_reducible refine HL.out.mono ?_); rintro e w' ⟨rfl, rfl⟩)
      | (go_at_call 36; (with_reducible refine HB.out.mono ?_); unfold BtA; rintro e w1 ⟨x, p1, er1, rfl, hx, hp1, H1⟩))
    have hx64 : x < 64 := by omega
    obtain ⟨n, hn⟩ : ∃ n, n = f1 + x := ⟨_, rfl⟩
    have hni : (f1 : Int) + (x : Int) = (n : Int) := by omega
    have hnl : n ≤ 400 := by omega
    obtain ⟨d1, fr1, cn1⟩ := H1.out
    rw [← hn] at cn1
    clear hn H1
    obtain ⟨x4, y4⟩ := ds4 d1
    by_cases he1 : er1 = 0
    · subst he1
      have hR1 := cn1.good
      rw [distR_eq, bindR_assoc] at hR1
      have HN : Hid (Calls Tryd.prog 51 #[.slice av LB cv] w1 fun e w' => e = .returned (.bool (decide (sumL s.lb = 0))) ∧ w1 = w') := gnone_any w1 _ s.lb ((HV.out w1 fr1).mono (fun g hg => hg.elim)) H15.out (by rw [HLB.out]; exact hl)
      by_cases hs : sumL s.lb = 0
      · have hbad : R = .bad 63 := by
          rw [hR1]
          exact bindR_bad (symR_none (fun i hk hi => by have := sumL_at s.lb i; have := hi.2.1; omega))
        obtain ⟨k1, k2⟩ := d1.setE 63 63 rfl
        have HSE : Hid (Calls Tryd.prog 48 #[.pointer (some ⟨sb, 0, none⟩), .slice av LB cv] (w1.setCell ⟨sb, 4, none⟩ (.int .i64 63)) fun e w' => e = .returned (.int .i64 0) ∧ w1.setCell ⟨sb, 4, none⟩ (.int .i64 63) = w') := hsymbol_err k1 (by decide) _ _ _
        have HF : Hid (∀ r, P (.returned r) (w1.setCell ⟨sb, 4, none⟩ (.int .i64 63))) := fun r => HX.out _ _ p1 63 hp1 (by decide) hbad k1 (fr1.trans k2)
        rw [decide_eq_true hs] at HN
        have z4 := (ds4 k1).1
        clear hbad hR1 cn1 d1 fr1 HX HV HK H15 k1 k2 HB HL HP hs
        go_upto_region 6 with (first | (go_at_call 51; (with_reducible refine HN.out.mono ?_); rintro e w' ⟨rfl, rfl⟩))
        generalize w1.setCell ⟨sb, 4, none⟩ (.int .i64 63) = W1 at *
        go_wp2_with (first | (go_at_call 48; (with_reducible refine HSE.out.mono ?_); rintro e w' ⟨rfl, rfl⟩))
        go_end0
        exact HF.out _
      · have hcod : Cod s.lb := by
          rcases HK.out with h | h
          · exact absurd h hs
          · exact h
        have HSY : Hid (Calls Tryd.prog 48 #[.pointer (some ⟨sb, 0, none⟩), .slice av LB cv] w1 (SyA sb ga cg b most p1 og vo s.out w1 s.lb R (fun d => bindR (if 29 < d then failR 63 else bindR (takeR (dfb d).2) fun v => retR ((dfb d).1 + v)) fun d => if s.out.length < d then failR 64 else if most - s.out.length < n then failR 32 else retR { s with out := copyN d n s.out }))) := hsymbol_any d1 _ (HV.out w1 fr1) (fun _ => hcod) R _ (.inr ⟨rfl, hR1⟩)
        rw [decide_eq_false hs] at HN
        have HFR : Hid (Fr (fun k => k = sb) w w1) := fr1
        clear hR1 cn1 d1 fr1 HV HK H15 HB HL hs hcod
        go_upto_region 7 with (first | (go_at_call 51; (with_reducible refine HN.out.mono ?_); rintro e w' ⟨rfl, rfl⟩) | (go_at_call 48; (with_reducible refine HSY.out.mono ?_); unfold SyA; rintro e w2 ⟨d, p2, er2, rfl, hd, hp2, H2⟩))
        obtain ⟨d2, fr2, cn2, _⟩ := H2.out
        clear H2 HSY HN
        obtain ⟨x4, y4⟩ := ds4 d2
        by_cases he2 : er2 = 0
        · subst he2
          have hR2 := cn2.good
          by_cases hd29 : 29 < d
          · rw [if_pos hd29] at hR2
            obtain ⟨k1, k2⟩ := d2.setE 63 63 rfl
            have HF : Hid (∀ r, P (.returned r) (w2.setCell ⟨sb, 4, none⟩ (.int .i64 63))) := fun r => HX.out _ _ p2 63 (by omega) (by decide) (by rw [hR2]; rfl) k1 ((HFR.out.trans fr2).trans k2)
            have z4 := (ds4 k1).1
            have hz29 : (29 : Int) < (d : Int) := by omega
            clear hR2 cn2 d2 fr2 k1 k2 HX HP
            go_upto_region 9 with fail
            generalize w2.setCell ⟨sb, 4, none⟩ (.int .i64 63) = W1 at *
            go_wp2_with fail
            go_end0
            exact HF.out _
          · rw [if_neg hd29, bindR_assoc] at hR2
            simp only [bindR_ret] at hR2
            have hdl := dfb_le d (by omega)
            have HD : Hid (Calls Tryd.prog 58 #[.int .i64 d] w2 fun e w' => e = .returned (.tuple #[.int .i64 (dfb d).1, .int .i64 (dfb d).2]) ∧ w2 = w') := gdistance_any w2 d (by omega)
            obtain ⟨f2, hf2⟩ : ∃ f2, f2 = (dfb d).1 := ⟨_, rfl⟩
            obtain ⟨m2, hm2⟩ : ∃ m2, m2 = (dfb d).2 := ⟨_, rfl⟩
            have hf21 : 1 ≤ f2 := by rw [hf2]; exact dfb_pos d
            rw [← hf2, ← hm2] at hR2 hdl HD
            clear hf2 hm2
            have HB2 : Hid (Calls Tryd.prog 36 #[.pointer (some ⟨sb, 0, none⟩), .int .i64 m2] w2 (BtA sb ga cg b most p2 og vo s.out w2 m2 R (fun x => if s.out.length < f2 + x then failR 64 else if most - s.out.length < n then failR 32 else retR { s with out := copyN (f2 + x) n s.out }))) := hbits_any d2 m2 (by omega) R _ (.inr ⟨rfl, hR2⟩)
            have hp15 : 2 ^ m2 ≤ 2 ^ 14 := Nat.pow_le_pow_right (by decide) hdl.2
            have hz29 : ¬ (29 : Int) < (d : Int) := by omega
            have HFR2 : Hid (Fr (fun k => k = sb) w w2) := HFR.out.trans fr2
            have hp02 : p ≤ p2 := by omega
            clear hR2 cn2 d2 fr2 HFR
            go_upto_region 12 with (first | (go_at_call 58; (with_reducible refine HD.out.mono ?_); rintro e w' ⟨rfl, rfl⟩) | (go_at_call 36; (with_reducible refine HB2.out.mono ?_); unfold BtA; rintro e w3 ⟨x2, p3, er3, rfl, hx2, hp3, H3⟩))
            have hx216 : x2 < 16384 := by omega
            obtain ⟨bk, hbk⟩ : ∃ bk, bk = f2 + x2 := ⟨_, rfl⟩
            have hbki : (f2 : Int) + (x2 : Int) = (bk : Int) := by omega
            have hbkl : bk ≤ 65536 ∧ 1 ≤ bk := by omega
            obtain ⟨d3, fr3, cn3⟩ := H3.out
            rw [← hbk] at cn3
            clear hbk H3 HB2 HD hx2
            obtain ⟨x4, y4⟩ := ds4 d3
            have hp03 : p ≤ p3 := by omega
            by_cases he3 : er3 = 0
            · subst he3
              have hR3 := cn3.good
              obtain ⟨o2, u2⟩ := ds2 d3
              obtain ⟨o3, u3⟩ := ds3 d3
              obtain ⟨av3, cv3, rfl, hcv1, hcv2⟩ := d3.ho.form
              by_cases hbo : s.out.length < bk
              · rw [if_pos hbo] at hR3
                obtain ⟨k1, k2⟩ := d3.setE 64 64 rfl
                have HF : Hid (∀ r, P (.returned r) (w3.setCell ⟨sb, 4, none⟩ (.int .i64 64))) := fun r => HX.out _ _ p3 64 hp03 (by decide) (by rw [hR3]; rfl) k1 ((HFR2.out.trans fr3).trans k2)
                have hzb : (s.out.length : Int) < (bk : Int) := by omega
                clear hR3 cn3 d3 fr3 k1 k2 HX HP HFR2
                generalize s.out.length = OL at *
                go_wp2_with fail
                go_end0
                exact HF.out _
              · rw [if_neg hbo] at hR3
                have hzb : ¬ (s.out.length : Int) < (bk : Int) := by omega
                have hol := d3.ol
                have hml := d3.ml
                obtain ⟨q, hq⟩ : ∃ q, q = most - s.out.length := ⟨_, rfl⟩
                have hqi : (most : Int) - (s.out.length : Int) = (q : Int) := by omega
                rw [← hq] at hR3
                by_cases hqn : q < n
                · rw [if_pos hqn] at hR3
                  have HF : Hid (∀ V r, Nw w3 V → P (.returned r) (V.setCell ⟨sb, 4, none⟩ (.int .i64 32))) := fun V r hV => by
                    obtain ⟨k1, k2⟩ := (d3.nw hV).setE 32 32 rfl
                    exact HX.out _ _ p3 32 hp03 (by decide) (by rw [hR3]; rfl) k1 (((HFR2.out.trans fr3).trans hV.any).trans k2)
                  have hzq : (q : Int) < (n : Int) := by omega
                  clear hR3 cn3 d3 fr3 HX HP HFR2 hq
                  generalize s.out.length = OL at *
                  go_upto_region 15 with fail
                  go_quiet (fail)
                  go_wp2_with fail
                  go_end0
                  exact HF.out _ _ ((Fr.refl _ _).drewN _)
                · rw [if_neg hqn] at hR3
                  have hzq : ¬ (q : Int) < (n : Int) := by omega
                  have hCP : CpI sb ga cg b most p3 og s.out bk w 0 av3 cv3 w3 := ⟨og, d3, Went.refl _ _, (HFR2.out.trans fr3).mono (fun i hi => .inl (.inl hi))⟩
                  have HCP : Hid (∀ V, Nw w3 V → CpI sb ga cg b most p3 og s.out bk w 0 av3 cv3 V) := fun V hV => by
                    obtain ⟨og', j1, j2, j3⟩ := hCP
                    exact ⟨og', j1.nw hV, j2, j3.trans hV.any⟩
                  have HF : Hid (∀ V r a c, CpI sb ga cg b most p3 og s.out bk w n a c V → P (.returned r) V) := fun V r a c hh => by
                    obtain ⟨og', j1, j2, j3⟩ := hh
                    rw [HP.out]
                    exact ⟨⟨_, rfl⟩, p3, 0, og', _, _, hp03, j1, j2, j3, .inr ⟨rfl, hR3⟩⟩
                  have hon : s.out.length + n ≤ most := by omega
                  have HO : Hid (s.out.length + n ≤ most ∧ bk ≤ s.out.length) := ⟨hon, by omega⟩
                  have h0 : ∀ z : Nat, s.out.length = z → s.out.length + 0 = z := fun z h => by omega
                  clear hR3 cn3 d3 fr3 HX HP HFR2 hq hCP h0
                  generalize hOL : s.out.length = OL at *
                  have HOL : Hid (s.out.length = OL) := hOL
                  clear hOL
                  go_upto_region 15 with fail
                  go_quiet (fail)
                  have HC0 : Hid (CpI sb ga cg b most p3 og s.out bk w 0 av3 cv3 (w3.drewN nq)) := HCP.out _ ((Fr.refl _ _).drewN _)
                  clear HCP o2 o3 u2 u3 x4 y4
                  generalize w3.drewN nq = w4 at *
                  go_wp2_with fail
                  go_loopg [11] n (fun kx i wr => ∃ (I c : Nat) (a : Option Addr), I ≤ n ∧ n - I ≤ kx ∧ i = .int .i64 I ∧ Hid (CpI sb ga cg b most p3 og s.out bk w I a c wr))
                  case atStart => exact ⟨0, cv3, av3, by omega, by omega, rfl, HC0⟩
                  case round =>
                    clear HC0
                    obtain ⟨I, c, a, hI, hkx, rfl, HC⟩ := hrel
                    by_cases hlt : I < n
                    · have hzI : (I : Int) < (n : Int) := by omega
                      obtain ⟨z, g, o, rfl, c1, c2, q1, q2, q3, a', c', W, HAP, u1, u2, HN⟩ := HC.out.step hbkl.2 (by rw [HOL.out]; exact HO.out.2) (by have := HO.out.1; rw [HOL.out]; omega)
                      rw [HOL.out] at c1 q1 q2 q3 HAP u1 HN
                      obtain ⟨LL, hLL⟩ : ∃ LL, LL = OL + I := ⟨_, rfl⟩
                      obtain ⟨L1, hL1⟩ : ∃ L1, L1 = OL + I + 1 := ⟨_, rfl⟩
                      obtain ⟨J, hJ⟩ : ∃ J, J = OL + I - bk := ⟨_, rfl⟩
                      have hJi : (LL : Int) - (bk : Int) = (J : Int) := by have := HO.out.2; omega
                      have hJl : J < LL := by have := HO.out.2; omega
                      have hJl2 : (J : Int) < (LL : Int) := by omega
                      have hJ0 : (0 : Int) ≤ (J : Int) := by omega
                      have hLb : LL ≤ 4194304 := by have := HO.out.1; omega
                      rw [← hL1] at HAP HN
                      rw [← hJ] at q1
                      rw [← hLL] at c1 q2 q3 HAP u1
                      have hwJ : IntKind.i64.wrap ((LL : Int) - (bk : Int)) = (J : Int) := by rw [hJi]; exact w64 _ (by omega)
                      have hwJ2 : IntKind.i64.wrap (J : Int) = (J : Int) := w64 _ (by omega)
                      have hap : ∀ ty, (appD #[22, 22] ty #[.slice (some ⟨g, o, none⟩) LL c, .slice (some ⟨wr.heap.size, 0, none⟩) 1 1]).run Tryd.prog (wr.alloc (.cells #[.int .u8 z.toNat] 5)).drew = .ok (.slice a' L1 c') W := HAP.out
                      obtain ⟨zz, hzz⟩ : ∃ zz, zz = z.toNat := ⟨_, rfl⟩
                      rw [← hzz] at q1 hap
                      clear HC HAP HF hLL hL1 hJ HO HOL hzz
                      go_wp2_with fail
                      go_region
                      all_goals go_wp2_with fail
                      all_goals go_roundg (n - (I + 1))
                      all_goals (first
                        | omega
                        | exact ⟨I + 1, c', a', by omega, by omega, by first | rfl | (congr 1), HN⟩)
                    · obtain rfl : I = n := by omega
                      have hzI : ¬ (I : Int) < (I : Int) := by omega
                      have HF2 : Hid (∀ r, P (.returned r) wr) := fun r => HF.out _ _ _ _ HC.out
                      clear HC HF HO HOL
                      go_wp2_with fail
                      go_end0
                      exact HF2.out _
            · have HF : Hid (∀ r, P (.returned r) w3) := fun r => HX.out _ _ p3 er3 hp03 he3 (cn3.bad he3) d3 (HFR2.out.trans fr3)
              have hz3 := ne0 he3
              have hz4 := ne0' he3
              clear cn3 d3 fr3 HX HP HFR2
              go_wp2_with fail
              go_end0
              exact HF.out _
        · have HF : Hid (∀ r, P (.returned r) w2) := fun r => HX.out _ _ p2 er2 (by omega) he2 (cn2.bad he2) d2 (HFR.out.trans fr2)
          have hz3 := ne0 he2
          have hz4 := ne0' he2
          clear cn2 d2 fr2 HX HP HFR
          go_wp2_with fail
          go_end0
          exact HF.out _
    · have HF : Hid (∀ r, P (.returned r) w1) := fun r => HX.out _ _ p1 er1 hp1 he1 (cn1.bad he1) d1 fr1
      have HSE : Hid (Calls Tryd.prog 48 #[.pointer (some ⟨sb, 0, none⟩), .slice av LB cv] w1 fun e w' => e = .returned (.int .i64 0) ∧ w1 = w') := hsymbol_err d1 he1 _ _ _
      have hz3 := ne0 he1
      have hz4 := ne0' he1
      clear cn1 d1 fr1 HX HV HK H15 HB HL HP
      go_wp2_with (first | (go_at_call 48; (with_reducible refine HSE.out.mono ?_); rintro e w' ⟨rfl, rfl⟩))
      go_end0
      exact HF.out _
  · have HF : Hid (∀ r, P (.returned r) (w.setCell ⟨sb, 4, none⟩ (.int .i64 63))) := fun r => by
      obtain ⟨k1, k2⟩ := h.setE 63 63 rfl
      exact HX.out _ _ p 63 (Nat.le_refl _) (by decide) (by rw [hc, mtR, if_neg h285]; rfl) k1 k2
    have hz : (285 : Int) < (y : Int) := by omega
    obtain ⟨av, cv, rfl, _⟩ := hv.form
    clear hP h hc HX hv
    go_enter Tryd.func49, Tryd.ntmps49
    go_wp2_with fail
    go_end0
    exact HF.out _
end Go.Proofs.YtincbbnppcpfpaaDoor
